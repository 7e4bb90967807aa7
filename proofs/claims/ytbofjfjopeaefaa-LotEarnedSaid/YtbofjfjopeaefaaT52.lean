import Derived.Test.YtbofjfjopeaefaaT40
import Derived.Test.YtbofjfjopeaefaaT51
set_option linter.unusedSimpArgs false
set_option linter.unusedVariables false
namespace Go.Am.K
open Go.Proofs
variable {T : Tab} {P : Program} {N L : Nat} {H H' H'' : AHeap} {Q : Bool → Value → AHeap → Prop}
section
variable {kq cq i5 b1 c1 b2 c2 b3 c3 b4 c4 i10 : Nat} {aq : Option Addr} {bq rs l : List Int} {ps : List Pk} {gs : List Gd} {lots lo hi sv : Int} {e e' : VT}
end
end Go.Am.K
namespace Go.Am.K
open Go.Proofs
variable {T : Tab} {P : Program} {N L : Nat} {H H' H'' : AHeap} {Q : Bool → Value → AHeap → Prop}
theorem c46M {a a' pa : Option Addr} {cap cap' pc k nx : Nat} {ps : List Pk} {gs : List Gd} {xs : List (List Int)} (hn : xs.length = nx) (h : StR H a a' ps gs (k : Int)) (hx : PlnR H pa xs) (hxl : xs.length ≤ k) (hlo : ∀ x ∈ xs, LotOk ps x) (hpl : Pl (stk ps) k (xs.map mx)) (hL : L ≤ H.size) {M : Nat} (hM : 3000 ≤ M)
  (hq : ∀ f H', Fr H H' → Q f (.tuple ⟨[.int .i64 (totL (brg ps gs) (xs.map mx)), .int .i64 0]⟩) H') :
  resK (acall tabA (aexec tabA Try.prog M) 46 [.agg ⟨[.slice a ps.length cap, .slice a' gs.length cap', .int .i64 (k : Int)]⟩, .slice pa nx pc] H) L Q := by
 subst hn
 exact c46 h hx hxl hlo hpl hL hM hq
theorem EI.keep {z kq cq i5 b1 c1 b2 c2 k i16 bL cL bG cG t : Nat} {aq : Option Addr} {bq : List Int} {ps left : List Pk} {gs : List Gd} {n : Int} {xs : List (List Int)} {rs : List (Option Addr × Nat × Nat)} {S : Nat → Prop} {v17 : Value} {e e' : VT} (I : EI z kq aq bq cq i5 b1 c1 b2 c2 k i16 bL cL bG cG ps gs n t left xs rs S v17 H e) (h : Keep 175 [5, 7, 9, 16, 17] e e') : EI z kq aq bq cq i5 b1 c1 b2 c2 k i16 bL cL bG cG ps gs n t left xs rs S v17 H e' :=
 { I with ea := I.ea.next (Nat.le_refl _) (fun _ _ _ => rfl) I.ea.chu (fun j hj => h j (by revert hj; simp; omega)), g16 := (h 16 (by decide)).trans I.g16, g17 := (h 17 (by decide)).trans I.g17 }
section
variable {z kq cq i5 b1 c1 b2 c2 k : Nat} {aq : Option Addr} {bq : List Int} {ps : List Pk} {gs : List Gd} {n : Int} {e e' : VT}
set_option maxHeartbeats 16000000 in
set_option maxRecDepth 10000 in
theorem c6F (hL : L ≤ kq) (I : EA z kq aq bq cq i5 b1 c1 b2 c2 k ps gs n H e) :
  W tabA Try.prog (N + 4500) none (sub [true, true, true, true, true, true, true, true, true, true, true, true] (bodyOf Try.f6)) L ⟨175, e, H, []⟩ (retK tabA L [.tmp 4] fun u _ => u = .bool true) := by
 obtain ⟨TL, hTL⟩ : ∃ c, sub [true, true, true, true, true, true, true, true, true, true, true, true, false, true, false, false, true, true, false, false, true, true, false, true, false, false, true, true, false, false] (bodyOf Try.f6) = c := ⟨_, rfl⟩
 have hTL0 := hTL
 simp only [Try.f6,bodyOf,sub_nil,sub_seq0,sub_seq1,sub_block,sub_loop,sub_cond0,sub_cond1] at hTL ⊢
 rw [hTL]
 clear hTL
 have hst := I.st.st
 have hk3 := hst.lo
 have hl4 := hst.l4
 have hl1 := hst.l1
 have pne : ps ≠ [] := by rintro rfl; simp at hl1
 have hkz := I.zs
 simp (disch:=first|(simp only [yk,seval];done)|omega|(simp only [yz]<;>omega)|fail) only [↓yp,yA,ys0,ys1,seval,fitB,newC,endD,endR,yrg]
 refine W_while (n := 175) 4300 (fun q e' H' => ∃ j : Nat, q = 5 - j ∧ j ≤ 5 ∧ EA z kq aq bq cq i5 b1 c1 b2 c2 k ps gs n H' e' ∧ gt 175 e' 123 = .int .i64 (j : Nat))
  ?_ 9 5 ⟨0, by omega, by omega, I.next (Nat.le_refl _) (fun _ _ _ => rfl) I.chu (by (with_reducible repeat first|refine Keep.put ?_ (by decide)|refine Keep.none ?_|assumption|exact Keep.refl _ _ _)), ?_⟩ (by omega) (by omega)
 rotate_left
 ·simp (disch:=first|(simp only [yk,seval];done)|omega|(simp only [yz]<;>omega)|fail) only [yg,seval] <;> rfl
 clear I
 rintro M1 q e H1 ⟨j, rfl, hj, I, g123⟩
 have zs := I.zs
 have g5 := I.g5
 have g7 := I.g7
 have b5 := I.b5
 simp (disch:=first|(simp only [yk,seval];done)|omega|(simp only [yz]<;>omega)|fail) only [↓yp,yA,ys0,ys1,seval,fitB,newC,endD,endR,yrg,g123]
 refine ⟨fun hT => ?_, fun hT => ?_⟩
 rotate_left
 ·simp (disch:=first|(simp only [yk,seval];done)|omega|(simp only [yz]<;>omega)|fail) only [↓yp,yA,ys0,ys1,seval,fitB,newC,endD,endR,yrg,awake_known]
 have hlt : j < 5 := by have := of_decide_eq_true hT; omega
 have hw2 : w64 ((j : Int) + 1) = ((j + 1 : Nat) : Int) := by rw [w64_of (by omega)]; omega
 have wk : w64 ((k : Int) + 1) = (k : Int) + 1 := w64_of (by omega)
 simp (disch:=first|(simp only [yk,seval];done)|omega|(simp only [yz]<;>omega)|fail) only [↓yp,yA,ys0,ys1,seval,fitB,newC,endD,endR,yrg,g5,b5]
 refine c14o I.st.hs I.st.hg (by omega) (by have := hst.g4; omega) pne I.gn (by omega) (by omega) ?_
 intro bL cL bG cG H2 fr2 q1 q2 q3 x1 x2
 have s2 := fr2.size
 have b52 := (fr2.same _ (show i5 < H1.size by omega)).trans b5
 have fG : Fr H1 ((H2.alloc (.rw [.slice none 0 0, .slice none 0 0, .int .i64 0] 25 false [])).put H2.size (.rw [.slice (some ⟨bL, 0, none⟩) ps.length cL, .slice (some ⟨bG, 0, none⟩) gs.length cG, .int .i64 (k : Int)] 25 false [])) := fr2.trans (by repeat first|exact Fr.refl _|assumption|refine Fr.allocd ?_ _|refine Fr.put ?_ (by first|omega|(simp only [yz]<;>omega)) _)
 simp (disch:=first|(simp only [yk,seval];done)|omega|(simp only [yz]<;>omega)|fail) only [↓yp,yA,ys0,ys1,seval,fitB,newC,endD,endR,yrg,g5,g7,b52,wk]
 refine c42 (I.chu.fr fG) (by omega) (by omega) (by omega) ?_
 rintro f r H3 - hr chu3 fx3 hz3
 simp only [size_put,size_alloc] at hz3
 obtain ⟨rn, rfl⟩ : ∃ rn : Nat, r = (rn : Int) := ⟨r.toNat, by have := hr.1; omega⟩
 have hrk : rn ≤ k := by rcases hr.2 with h | h <;> omega
 have o3 : ∀ q, q < H1.size → q ≠ kq → H3.get q = H1.get q := fun q h1 h2 => by rw [fx3.same q (by first|omega|(simp only [yz]<;>omega)) h2]; exact fG.same q h1
 have b16 : H3.get H2.size = .rw [.slice (some ⟨bL, 0, none⟩) ps.length cL, .slice (some ⟨bG, 0, none⟩) gs.length cG, .int .i64 (k : Int)] 25 false [] := by
  rw [fx3.same _ (by first|omega|(simp only [yz]<;>omega)) (by omega)]; exact get_put_same (by first|omega|(simp only [yz]<;>omega))
 have bl3 : H3.get bL = .rw (pkE.fl ps) 87 true [] := by
  rw [fx3.same _ (by first|omega|(simp only [yz]<;>omega)) (by omega), get_put_ne (by omega), get_alloc_lt (by omega)]; exact x1
 simp (disch:=first|(simp only [yk,seval];done)|omega|(simp only [yz]<;>omega)|fail) only [↓yp,yA,ys0,ys1,seval,fitB,newC,endD,endR,yrg]
 refine W_while (n := 175) 3500 (fun q e' H' => ∃ (t : Nat) (left : List Pk) (xs : List (List Int)) (rs : List (Option Addr × Nat × Nat)) (S : Nat → Prop) (v17 : Value), q = rn - t ∧ t ≤ rn ∧ EI z kq aq bq cq i5 b1 c1 b2 c2 k H2.size bL cL bG cG ps gs n t left xs rs S v17 H' e' ∧ gt 175 e' 132 = .int .i64 (t : Nat) ∧ gt 175 e' 131 = .int .i64 (rn : Int) ∧ gt 175 e' 123 = .int .i64 (j : Nat))
  ?_ 9 rn ⟨0, ps, [], [], fun _ => False, .slice none 0 0, by omega, by omega, ⟨I.next (by omega) (fun q h1 h2 => o3 q (by omega) h2) chu3 (by (with_reducible repeat first|refine Keep.put ?_ (by decide)|refine Keep.none ?_|assumption|exact Keep.refl _ _ _)), b16, bl3, ?_, ?_, Gw.none, rfl, rfl, fun j r x h => by simp at h, rfl, fun i p q hq hp => ?_, fun m M hM => ?_, fun x hx => by simp at hx, by omega⟩, ?_, ?_, ?_⟩ (by omega) (by omega)
 rotate_left
 ·simp (disch:=first|(simp only [yk,seval];done)|omega|(simp only [yz]<;>omega)|fail) only [yg,seval]
 ·simp (disch:=first|(simp only [yk,seval];done)|omega|(simp only [yz]<;>omega)|fail) only [yg,seval]
 ·rw [hp] at hq
  cases hq
  have := (I.st.pk p (List.mem_of_getElem? hp)).s
  omega
 ·rw [Nat.zero_add]; exact hM
 ·simp (disch:=first|(simp only [yk,seval];done)|omega|(simp only [yz]<;>omega)|fail) only [yg,seval] <;> rfl
 ·simp (disch:=first|(simp only [yk,seval];done)|omega|(simp only [yz]<;>omega)|fail) only [yg,seval]
 ·simp (disch:=first|(simp only [yk,seval];done)|omega|(simp only [yz]<;>omega)|fail) only [yg,seval,g123]
 rintro M2 q e2 H4 ⟨t, left, xs, rs, S, v17, rfl, ht, J, g132, g131, g123'⟩
 have zs4 := J.ea.zs
 simp (disch:=first|(simp only [yk,seval];done)|omega|(simp only [yz]<;>omega)|fail) only [↓yp,yA,ys0,ys1,seval,fitB,newC,endD,endR,yrg,g132,g131]
 refine ⟨fun hT => ?_, fun hT => ?_⟩
 ·have hlt2 : t < rn := by have := of_decide_eq_true hT; omega
  have hw3 : w64 ((t : Int) + 1) = ((t + 1 : Nat) : Int) := by rw [w64_of (by omega)]; omega
  simp (disch:=first|(simp only [yk,seval];done)|omega|(simp only [yz]<;>omega)|fail) only [↓yp,yA,ys0,ys1,seval,fitB,newC,endD,endR,yrg]
  rw [← hTL0]
  have J' : EI z kq aq bq cq i5 b1 c1 b2 c2 k H2.size bL cL bG cG ps gs n t left xs rs S v17 H4 (e2.put (some 133) (.bool (decide ((t : Int) < (rn : Int))))) := J.keep (by (with_reducible repeat first|refine Keep.put ?_ (by decide)|refine Keep.none ?_|assumption|exact Keep.refl _ _ _))
  refine W_end (c6S hL J' (by omega)) ?_
  rintro e3 H5 ⟨left', xs', rs', S', v', K, kp, hz5, o5⟩
  have m132 := kp 132 (by decide)
  have m131 := kp 131 (by decide)
  have m123 := kp 123 (by decide)
  simp (disch:=first|(simp only [yk,seval];done)|omega|(simp only [yz]<;>omega)|fail) only [yg,seval,g132] at m132
  simp (disch:=first|(simp only [yk,seval];done)|omega|(simp only [yz]<;>omega)|fail) only [yg,seval,g131] at m131
  simp (disch:=first|(simp only [yk,seval];done)|omega|(simp only [yz]<;>omega)|fail) only [yg,seval,g123'] at m123
  simp (disch:=first|(simp only [yk,seval];done)|omega|(simp only [yz]<;>omega)|fail) only [↓yp,yA,ys0,ys1,seval,fitB,newC,endD,endR,yrg,m132,hw3]
  refine ⟨rn - (t + 1), by omega, t + 1, left', xs', rs', S', v', rfl, by omega, K.keep (by (with_reducible repeat first|refine Keep.put ?_ (by decide)|refine Keep.none ?_|assumption|exact Keep.refl _ _ _)), ?_, ?_, ?_⟩
  ·simp (disch:=first|(simp only [yk,seval];done)|omega|(simp only [yz]<;>omega)|fail) only [yg,seval]
  ·simp (disch:=first|(simp only [yk,seval];done)|omega|(simp only [yz]<;>omega)|fail) only [yg,seval,m131]
  ·simp (disch:=first|(simp only [yk,seval];done)|omega|(simp only [yz]<;>omega)|fail) only [yg,seval,m123]
 have hte : t = rn := by have := of_decide_eq_false hT; omega
 subst hte
 have A := J.ea
 have g5' := A.g5
 have g7' := A.g7
 have g9' := A.g9
 have g17' := J.g17
 have b54 := A.b5
 obtain ⟨x17, c17, e17, rw17⟩ := (show Gw H4 H2.size S v17 t (rowE.fl rs) 49 rowE.z from J.gw).sl J.rl
 subst e17
 have pln : PlnR H4 x17 xs := ⟨rs, by rw [J.rl, J.xl], rw17, fun q r x hr hx => by
  obtain ⟨h1, b, h2, -, -, -, h6⟩ := J.rows q r x hr hx
  exact ⟨h1, h6⟩⟩
 have hpl : Pl (stk ps) k (xs.map mx) := by
  have h0 := J.pl (k - t) [] (by cases k - t <;> trivial)
  rw [List.append_nil, show t + (k - t) = k by omega] at h0
  exact h0
 have hle := A.opt.le _ hpl
 have hgt : decide (n < totL (brg ps gs) (xs.map mx)) = false := by simp; omega
 have d00 : decide ((0 : Int) = 0) = true := rfl
 have zs5 := A.zs
 simp (disch:=first|(simp only [yk,seval];done)|omega|(simp only [yz]<;>omega)|fail) only [↓yp,yA,ys0,ys1,seval,fitB,newC,endD,endR,yrg,g5',g17',b54]
 refine c46M J.xl A.st pln (by rw [J.xl]; omega) J.lo hpl (by omega) (by omega) ?_
 intro f6 H6 fr6
 have s6 := fr6.size
 simp (disch:=first|(simp only [yk,seval];done)|omega|(simp only [yz]<;>omega)|fail) only [↓yp,yA,ys0,ys1,seval,fitB,newC,endD,endR,yrg,g9',g123',hgt,d00,hw2]
 refine ⟨5 - (j + 1), by omega, j + 1, rfl, by omega, A.next s6 (fun q h1 h2 => fr6.same q (by omega)) (A.chu.fr fr6) (by (with_reducible repeat first|refine Keep.put ?_ (by decide)|refine Keep.none ?_|assumption|exact Keep.refl _ _ _)), ?_⟩
 simp (disch:=first|(simp only [yk,seval];done)|omega|(simp only [yz]<;>omega)|fail) only [yg,seval]
end
end Go.Am.K
namespace Go.Am.K
open Go.Proofs
variable {T : Tab} {P : Program} {N L : Nat} {H H' H'' : AHeap} {Q : Bool → Value → AHeap → Prop}
section
variable {z kq cq i5 b1 c1 b2 c2 k bp cp : Nat} {aq : Option Addr} {bq : List Int} {ps : List Pk} {gs : List Gd} {n : Int} {e e' : VT} {al : List Nat} {pr : List Int}
set_option maxHeartbeats 16000000 in
set_option maxRecDepth 10000 in
theorem c6B (hL : L ≤ kq) (hLz : L ≤ z) (I : EA z kq aq bq cq i5 b1 c1 b2 c2 k ps gs n H e) (g13 : gt 175 e 13 = .slice (some ⟨bp, 0, none⟩) ps.length cp) (bb : H.get bp = .rw (intE.fl pr) 3 true al) (hbp : z ≤ bp ∧ bp < H.size) (hal : ∀ x ∈ al, z ≤ x) (hpl : pr.length = ps.length) (hpr : ∀ v ∈ pr, 30 ≤ v ∧ v ≤ 100) :
  W tabA Try.prog (N + 6000) none (sub [true, true, true, true, true, true, true, true, true, true] (bodyOf Try.f6)) L ⟨175, e, H, []⟩ (retK tabA L [.tmp 4] fun u _ => u = .bool true) := by
 obtain ⟨TL, hTL⟩ : ∃ c, sub [true, true, true, true, true, true, true, true, true, true, true, true] (bodyOf Try.f6) = c := ⟨_, rfl⟩
 have hTL0 := hTL
 simp only [Try.f6,bodyOf,sub_nil,sub_seq0,sub_seq1,sub_block,sub_loop,sub_cond0,sub_cond1] at hTL ⊢
 rw [hTL]
 clear hTL
 have hst := I.st.st
 have hk3 := hst.lo
 have hl4 := hst.l4
 have hl1 := hst.l1
 have zs0 := I.zs
 simp (disch:=first|(simp only [yk,seval];done)|omega|(simp only [yz]<;>omega)|fail) only [↓yp,yA,ys0,ys1,seval,fitB,newC,endD,endR,yrg,g13,lenV_slice st_esS_49]
 refine W_while (n := 175) 5700 (fun q e' H' => ∃ (i : Nat) (qr : List Int) (al : List Nat), q = ps.length - i ∧ i ≤ ps.length ∧ EA z kq aq bq cq i5 b1 c1 b2 c2 k ps gs n H' e' ∧ gt 175 e' 94 = .int .i64 (i : Nat) ∧ gt 175 e' 93 = .int .i64 (ps.length : Nat) ∧ gt 175 e' 13 = .slice (some ⟨bp, 0, none⟩) ps.length cp ∧ H'.get bp = .rw (intE.fl qr) 3 true al ∧ bp < H'.size ∧ (∀ x ∈ al, z ≤ x) ∧ qr.length = ps.length ∧ ∀ (j : Nat) (v : Int), qr[j]? = some v → (0 ≤ v ∧ v ≤ 100) ∧ (i ≤ j → 30 ≤ v))
  ?_ 9 ps.length ⟨0, pr, al, by omega, by omega, I.next (Nat.le_refl _) (fun _ _ _ => rfl) I.chu (by (with_reducible repeat first|refine Keep.put ?_ (by decide)|refine Keep.none ?_|assumption|exact Keep.refl _ _ _)), ?_, ?_, ?_, bb, hbp.2, hal, hpl, fun j v hv => by have := hpr v (List.mem_of_getElem? hv); omega⟩ (by omega) (by omega)
 rotate_left
 ·simp (disch:=first|(simp only [yk,seval];done)|omega|(simp only [yz]<;>omega)|fail) only [yg,seval] <;> rfl
 ·simp (disch:=first|(simp only [yk,seval];done)|omega|(simp only [yz]<;>omega)|fail) only [yg,seval]
 ·simp (disch:=first|(simp only [yk,seval];done)|omega|(simp only [yz]<;>omega)|fail) only [yg,seval,g13]
 clear I bb hal hpl hpr g13
 rintro M1 q e H1 ⟨i, qr, al, rfl, hi, I, g94, g93, g13, bb, hbs, hal, hql, hqr⟩
 have zs := I.zs
 have g7 := I.g7
 simp (disch:=first|(simp only [yk,seval];done)|omega|(simp only [yz]<;>omega)|fail) only [↓yp,yA,ys0,ys1,seval,fitB,newC,endD,endR,yrg,g94,g93]
 refine ⟨fun hT => ?_, fun hT => ?_⟩
 ·have hlt : i < ps.length := by have := of_decide_eq_true hT; omega
  have hw2 : w64 ((i : Int) + 1) = ((i + 1 : Nat) : Int) := by rw [w64_of (by omega)]; omega
  obtain ⟨v, hv⟩ : ∃ v, qr[i]? = some v := ⟨qr[i]'(by omega), List.getElem?_eq_getElem _⟩
  have hv1 := hqr i v hv
  simp (disch:=first|(simp only [yk,seval];done)|omega|(simp only [yz]<;>omega)|fail) only [↓yp,yA,ys0,ys1,seval,fitB,newC,endD,endR,yrg,g94]
  obtain ⟨fg, v1, H2, mm, hres, hLm, x, rfl, hff, hx, hcu, hxx, hss⟩ := resK_elim (Q := fun f v H'' => ∃ d : Int, v = .int .i64 d ∧ (f = true → H'' = H1) ∧ Pulled 30 d ∧ Chu H'' kq aq bq cq ∧ FrX kq H1 H'' ∧ H''.size = H1.size)
   (c42 (n := 30) (M := M1 + 5694) I.chu hL (by omega) (by omega) fun f v H'' h0 h1 h2 h3 h4 => ⟨v, rfl, h0, h1, h2, h3, h4⟩)
  have hx1 := hx.1
  have hx2 : x < 30 := by rcases hx.2 with h | h <;> omega
  have hce : (intE.fl qr)[i]? = some (.int .i64 v) := by
   have := cell_of (k := i * 1) (fl_at (E := intE) hv)
   rwa [Nat.mul_one] at this
  have h30 := hv1.2 (Nat.le_refl _)
  have w1 : w64 (v - x) = v - x := w64_of (by omega)
  have hset : newC i [.int .i64 (v - x)] (intE.fl qr) = intE.fl (qr.set i (v - x)) := by
   have := newC_fl (E := intE) (l := qr) (k := i) (s := v - x) (by omega)
   rwa [show i * intE.z = i from Nat.mul_one i] at this
  have hfl : (intE.fl qr).length = ps.length := by rw [fl_length, hql]; exact Nat.mul_one _
  have hfit : decide (i + 1 ≤ ps.length) = true := decide_eq_true (by omega)
  have oks : ∀ (j : Nat) (u : Int), (qr.set i (v - x))[j]? = some u → (0 ≤ u ∧ u ≤ 100) ∧ (i + 1 ≤ j → 30 ≤ u) := fun j u hu => by
   by_cases hji : j = i
   ·subst hji
    rw [List.getElem?_set_self (by omega)] at hu
    cases hu
    omega
   ·rw [List.getElem?_set_ne (Ne.symm hji)] at hu
    have := hqr j u hu
    omega
  obtain ⟨qf, hqf⟩ : ∃ f, intE.fl qr = f := ⟨_, rfl⟩
  obtain ⟨qf', hqf'⟩ : ∃ f, intE.fl (qr.set i (v - x)) = f := ⟨_, rfl⟩
  rw [hqf] at bb hset hfl hce
  rw [hqf'] at hset
  have hset' : List.take i qf ++ [.int .i64 (v - x)] ++ List.drop (i + 1) qf = qf' := hset
  have bb2 : H2.get bp = .rw qf 3 true al := (hxx.same _ hbs (by omega)).trans bb
  have hml : L ≤ minAl bp al := le_minAl (by omega) fun j hj => by have := hal j hj; omega
  have fin : ∀ (e'' : VT), Keep 175 [5, 7, 9] e e'' → gt 175 e'' 94 = .int .i64 ((i + 1 : Nat) : Int) → gt 175 e'' 93 = .int .i64 (ps.length : Nat) → gt 175 e'' 13 = .slice (some ⟨bp, 0, none⟩) ps.length cp →
    ∃ q', q' < ps.length - i ∧ ∃ (i' : Nat) (qr : List Int) (al' : List Nat), q' = ps.length - i' ∧ i' ≤ ps.length ∧ EA z kq aq bq cq i5 b1 c1 b2 c2 k ps gs n ((H2.kill al).put bp (.rw qf' 3 true [])) e'' ∧ gt 175 e'' 94 = .int .i64 (i' : Nat) ∧ gt 175 e'' 93 = .int .i64 (ps.length : Nat) ∧ gt 175 e'' 13 = .slice (some ⟨bp, 0, none⟩) ps.length cp ∧ ((H2.kill al).put bp (.rw qf' 3 true [])).get bp = .rw (intE.fl qr) 3 true al' ∧ bp < ((H2.kill al).put bp (.rw qf' 3 true [])).size ∧ (∀ x ∈ al', z ≤ x) ∧ qr.length = ps.length ∧ ∀ (j : Nat) (v : Int), qr[j]? = some v → (0 ≤ v ∧ v ≤ 100) ∧ (i' ≤ j → 30 ≤ v) := fun e'' kp q1 q2 q3 => by
   have ov : ∀ j, j < z → ((H2.kill al).put bp (.rw qf' 3 true [])).get j = H2.get j := fun j hj => by
    rw [get_put_ne (by omega), get_kill fun hm => by have := hal j hm; omega]
   refine ⟨ps.length - (i + 1), by omega, i + 1, qr.set i (v - x), [], rfl, by omega, I.next (by simp only [size_put,size_kill]; omega) (fun j h1 h2 => by rw [ov j h1]; exact hxx.same j (by omega) h2) (hcu.keep (by simp only [size_put,size_kill]; omega) (ov kq (by omega)) fun hne b o e hb => ov b (I.al hne b o e)) kp, q1, q2, q3, ?_, by simp only [size_put,size_kill]; omega, fun x hx => by simp at hx, by rw [List.length_set]; exact hql, oks⟩
   rw [hqf']
   exact get_put_same (by simp only [size_kill]; omega)
  cases fg
  ·refine W_drawR (pl := []) [5, 8] [(3, 2)] (planK_of rfl) (by kernel_rfl) (by kernel_rfl) (by kernel_rfl) (by first|omega|(simp only [yz]<;>omega)) ?_
   simp (disch:=first|(simp only [yk,seval];done)|omega|(simp only [yz]<;>omega)|fail) only [↓yp,yA,ys0,ys1,seval,fitB,newC,endD,endR,yrg,g13,g7,g94,A_indexSlice st_esS_49,bb,bb2,hce,hres,w1,wrB_al,hfl,hfit,hset',hw2,Nat.mul_one,Nat.zero_add]
   refine fin _ (by (with_reducible repeat first|refine Keep.put ?_ (by decide)|refine Keep.none ?_|assumption|exact Keep.refl _ _ _)) ?_ ?_ ?_
   ·simp (disch:=first|(simp only [yk,seval];done)|omega|(simp only [yz]<;>omega)|fail) only [yg,seval]
   ·simp (disch:=first|(simp only [yk,seval];done)|omega|(simp only [yz]<;>omega)|fail) only [yg,seval,g93]
   ·simp (disch:=first|(simp only [yk,seval];done)|omega|(simp only [yz]<;>omega)|fail) only [yg,seval,g13]
  ·obtain rfl := hff rfl
   refine W_drawR (pl := []) [8] [(3, 1), (5, 1)] (planK_of rfl) (by kernel_rfl) (by kernel_rfl) (by kernel_rfl) (by first|omega|(simp only [yz]<;>omega)) ?_
   simp (disch:=first|(simp only [yk,seval];done)|omega|(simp only [yz]<;>omega)|fail) only [↓yp,yA,ys0,ys1,seval,fitB,newC,endD,endR,yrg,g13,g7,g94,A_indexSlice st_esS_49,bb,bb2,hce,hres,w1,wrB_al,hfl,hfit,hset',hw2,Nat.mul_one,Nat.zero_add]
   refine fin _ (by (with_reducible repeat first|refine Keep.put ?_ (by decide)|refine Keep.none ?_|assumption|exact Keep.refl _ _ _)) ?_ ?_ ?_
   ·simp (disch:=first|(simp only [yk,seval];done)|omega|(simp only [yz]<;>omega)|fail) only [yg,seval]
   ·simp (disch:=first|(simp only [yk,seval];done)|omega|(simp only [yz]<;>omega)|fail) only [yg,seval,g93]
   ·simp (disch:=first|(simp only [yk,seval];done)|omega|(simp only [yz]<;>omega)|fail) only [yg,seval,g13]
 have hie : i = ps.length := by have := of_decide_eq_false hT; omega
 subst hie
 have g5 := I.g5
 have g9 := I.g9
 have b5 := I.b5
 have rq : Rw intE H1 (some ⟨bp, 0, none⟩) qr := Rw.of (r := []) hbs (by rw [bb]; rfl) (by rw [List.append_nil])
 have hq100 : ∀ x ∈ qr, 0 ≤ x ∧ x ≤ 100 := fun x hx => by
  obtain ⟨j, hj⟩ := List.getElem?_of_mem hx
  exact (hqr j x hj).1
 simp (disch:=first|(simp only [yk,seval];done)|omega|(simp only [yz]<;>omega)|fail) only [↓yp,yA,ys0,ys1,seval,fitB,newC,endD,endR,yrg,g5,g13,b5]
 have h47 := fun {M : Nat} (hM : 5000 ≤ M) (Q : Bool → Value → AHeap → Prop) => c47 (Q := Q) (L := L) (M := M) (cap := c1) (cap' := c2) (pc := cp) I.st rq hql hq100 (by omega) hM
 rw [hql] at h47
 refine h47 (by omega) _ ?_
 intro f b H2 fr2 hb
 have s2 := fr2.size
 unfold bndV
 have IE : ∀ e'' : VT, Keep 175 [5, 7, 9] e e'' → EA z kq aq bq cq i5 b1 c1 b2 c2 k ps gs n H2 e'' := fun e'' kp => I.next s2 (fun j h1 h2 => fr2.same j (by omega)) (I.chu.fr fr2) kp
 have d00 : decide ((0 : Int) = 0) = true := rfl
 have d88 : decide ((8 : Int) = 8) = true := rfl
 have d08 : decide ((0 : Int) = 8) = false := rfl
 cases b
 ·have hn := opt_cst (gs := gs) I.st.pk (fun v hv => (hq100 v hv).1) I.opt fun h => by have := hb.2 h; cases this
  obtain ⟨cv, hcv⟩ : ∃ v, cst (stk ps) qr = v := ⟨_, rfl⟩
  rw [hcv] at hn ⊢
  have dn : decide (cv < n) = false := by simp; omega
  simp (disch:=first|(simp only [yk,seval];done)|omega|(simp only [yz]<;>omega)|fail) only [↓yp,yA,ys0,ys1,seval,fitB,newC,endD,endR,yrg,cond_false,g9,d00,d08,dn]
  rw [← hTL0]
  exact c6F hL (IE _ (by (with_reducible repeat first|refine Keep.put ?_ (by decide)|refine Keep.none ?_|assumption|exact Keep.refl _ _ _)))
 ·simp (disch:=first|(simp only [yk,seval];done)|omega|(simp only [yz]<;>omega)|fail) only [↓yp,yA,ys0,ys1,seval,fitB,newC,endD,endR,yrg,cond_true,g9,d88]
  rw [← hTL0]
  exact c6F hL (IE _ (by (with_reducible repeat first|refine Keep.put ?_ (by decide)|refine Keep.none ?_|assumption|exact Keep.refl _ _ _)))
end
end Go.Am.K
