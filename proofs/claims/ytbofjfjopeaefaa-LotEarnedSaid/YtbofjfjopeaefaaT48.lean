import Derived.Test.YtbofjfjopeaefaaT47
import Derived.Test.YtbofjfjopeaefaaT45
import Derived.Test.YtbofjfjopeaefaaT43
import Derived.Test.YtbofjfjopeaefaaT41
import Derived.Test.YtbofjfjopeaefaaT46
set_option linter.unusedSimpArgs false
set_option linter.unusedVariables false
namespace Go.Am.K
open Go.Proofs
variable {T : Tab} {P : Program} {N L : Nat} {H H' H'' : AHeap} {Q : Bool → Value → AHeap → Prop}
def cstL (x pr : List Int) : List Int := List.zipWith (fun a b => a * b) x pr
def cst (x pr : List Int) : Int := isum (cstL x pr)
theorem isum_take {z : List Int} {i : Nat} {v : Int} (h : z[i]? = some v) : isum (z.take (i + 1)) = isum (z.take i) + v := by
 rw [List.take_add_one, h, isum_app]
 show _ + (v + 0) = _
 omega
theorem isum_nn : ∀ {z : List Int}, (∀ v ∈ z, 0 ≤ v) → 0 ≤ isum z
 | [], _ => Int.le_refl _
 | x :: z, h => by
  have h1 := h x (by simp)
  have h2 := isum_nn (z := z) fun v hv => h v (by simp [hv])
  show 0 ≤ x + isum z
  omega
theorem isum_take_le {z : List Int} {i : Nat} (h : ∀ v ∈ z, 0 ≤ v) : isum (z.take i) ≤ isum z := by
 have e : isum z = isum (z.take i) + isum (z.drop i) := by rw [← isum_app, List.take_append_drop]
 have := isum_nn (z := z.drop i) fun v hv => h v (List.mem_of_mem_drop hv)
 omega
structure XJ (ps : List Pk) (gs : List Gd) (pr : List Int) (mk : Nat) (H6 : AHeap) (k : Nat) (H'' : AHeap) : Prop where
 sz : H6.size + 2 ≤ H''.size
 same : ∀ j, j < H6.size → j ≠ mk → H''.get j = H6.get j
 br : BrI ps gs (H''.get mk)
 all : ∀ x, LV (stk ps) x → vl (stk ps) x < k → brg ps gs x ≤ cst x pr
structure XE (ps : List Pk) (gs : List Gd) (pr : List Int) (mk i5 : Nat) (H6 : AHeap) (H'' : AHeap) : Prop where
 sz : H6.size + 2 ≤ H''.size
 same : ∀ j, j < H6.size → j ≠ mk → j ≠ i5 → H''.get j = H6.get j
 br : BrI ps gs (H''.get mk)
 b5 : H''.get i5 = .rw [.bool true] 4 false []
 ex : ∃ x, LV (stk ps) x ∧ cst x pr < brg ps gs x
def XR (ps : List Pk) (gs : List Gd) (pr : List Int) (mk : Nat) (H : AHeap) (v : Value) (H' : AHeap) : Prop := (∃ b, v = .bool b ∧ (b = true ↔ ∃ x, LV (stk ps) x ∧ cst x pr < brg ps gs x)) ∧ H.size ≤ H'.size ∧ (∀ i, i < H.size → i ≠ mk → H'.get i = H.get i) ∧ BrI ps gs (H'.get mk)
section
variable {a a' pa : Option Addr} {cap cap' pc mk : Nat} {ps : List Pk} {gs : List Gd} {lots : Int} {pr : List Int}
set_option maxHeartbeats 8000000 in
set_option maxRecDepth 10000 in
theorem c106 (hs : Rw pkE H a ps) (hgs : Rw gdE H a' gs) (hl : ps.length ≤ 4) (hl1 : 1 ≤ ps.length) (hk : ∀ p ∈ ps, p.Ok) (hgl : gs.length ≤ 4) (hgk : ∀ g ∈ gs, g.Ok) (hr : Rw intE H pa pr) (hrl : pr.length = ps.length) (hrb : ∀ x ∈ pr, 0 ≤ x ∧ x ≤ 100) (hmk : mk < H.size) (hbr : BrI ps gs (H.get mk)) (hL : L ≤ mk) :
  resK (acall tabA (aexec tabA Try.prog (N + 4500)) 106 [.agg ⟨[.slice a ps.length cap, .slice a' gs.length cap', .int .i64 lots, .map (some mk)]⟩, .slice pa pr.length pc] H) L fun _ v H' => XR ps gs pr mk H v H' := by
 refine call_keepD tabA_fr (R := XR ps gs pr mk H) (k := 35) (rs := [.tmp 4]) rfl fn_106 rfl rfl rfl (by omega) ?_ (fun v H' h => h) ?_
 rotate_left
 ·rintro v H' ⟨h1, h2, h3, h4⟩ _ fr
  exact ⟨h1, Nat.le_refl _, fun _ _ _ => rfl, hbr⟩
 have hin := stk_in hk
 have h102 := fun (N : Nat) (H' : AHeap) (f : Fr H H') => c102 (N := N) (cap := cap) (g := .slice a' gs.length cap') (lo := .int .i64 lots) (mp := .map (some mk)) (hs.fr f) hl
 have h123 := fun (N : Nat) (H' : AHeap) (Q : Bool → Value → AHeap → Prop) (hL : L ≤ H'.size) => c123 (N := N) (H := H') (Q := Q) (L := L) (m := stk ps) (stk_len hl) hL
 simp (disch:=first|(simp only [yk,seval];done)|omega|(simp only [yz]<;>omega)|fail) only [↓W_scope,↓yp,yA,ys0,ys1,seval,fitB,newC,endD,endR,yrg,one_map,one_map',st_alS_4]
 rw [h102 _ _ (by repeat first|exact Fr.refl _|assumption|refine Fr.allocd ?_ _|refine Fr.put ?_ (by first|omega|(simp only [yz]<;>omega)) _)]
 simp (disch:=first|(simp only [yk,seval];done)|omega|(simp only [yz]<;>omega)|fail) only [↓yp,yA,ys0,ys1,seval,fitB,newC,endD,endR,yrg]
 rw [h123 _ _ _ (by first|omega|(simp only [yz]<;>omega))]
 simp (disch:=first|(simp only [yk,seval];done)|omega|(simp only [yz]<;>omega)|fail) only [↓yp,yA,ys0,ys1,seval,fitB,newC,endD,endR,yrg]
 refine W_gen (fun e6 H6 => gt 35 e6 12 = .func (.func 131) ⟨[]⟩ ⟨[.pointer (some ⟨H.size + 1 + 1 + 1, 0, none⟩)]⟩ ∧ gt 35 e6 2 = .pointer (some ⟨H.size, 0, none⟩) ∧ gt 35 e6 3 = .pointer (some ⟨H.size + 1, 0, none⟩) ∧ gt 35 e6 5 = .pointer (some ⟨H.size + 1 + 1, 0, none⟩) ∧ Fr H H6 ∧ H6.size = H.size + 4 ∧
  H6.get H.size = .rw [.slice a ps.length cap, .slice a' gs.length cap', .int .i64 lots, .map (some mk)] 124 false [] ∧ H6.get (H.size + 1) = .rw [.slice pa pr.length pc] 49 false [] ∧ H6.get (H.size + 1 + 1) = .rw [.bool false] 4 false [] ∧ H6.get (H.size + 1 + 1 + 1) = .rw (tv (stk ps)) 119 false []) ⟨?_, ?_, ?_, ?_, ?_, ?_, ?_, ?_, ?_, ?_⟩ ?_
 ·simp (disch:=first|(simp only [yk,seval];done)|omega|(simp only [yz]<;>omega)|fail) only [yg,seval]
 ·simp (disch:=first|(simp only [yk,seval];done)|omega|(simp only [yz]<;>omega)|fail) only [yg,seval]
 ·simp (disch:=first|(simp only [yk,seval];done)|omega|(simp only [yz]<;>omega)|fail) only [yg,seval]
 ·simp (disch:=first|(simp only [yk,seval];done)|omega|(simp only [yz]<;>omega)|fail) only [yg,seval]
 ·(repeat (first | exact Fr.refl _ | assumption | refine Fr.allocd ?_ _ | refine Fr.put ?_ (by first | omega | (simp only [yz] <;> omega)) _))
 ·(first | omega | (simp only [yz] <;> omega))
 ·simp (disch:=first|(simp only [yk,seval];done)|omega|(simp only [yz]<;>omega)|fail) only [yg,seval]
 ·simp (disch:=first|(simp only [yk,seval];done)|omega|(simp only [yz]<;>omega)|fail) only [yg,seval]
 ·simp (disch:=first|(simp only [yk,seval];done)|omega|(simp only [yz]<;>omega)|fail) only [yg,seval]
 ·simp (disch:=first|(simp only [yk,seval];done)|omega|(simp only [yz]<;>omega)|fail) only [yg,seval]
 clear h102 h123
 rintro e6 H6 ⟨g12, g2, g3, g5, fr6, sz6, b2, b3, b5, bm⟩
 obtain ⟨m0, m1, m2, m3, hm⟩ := four (stk_len hl)
 have hm6 : (0 ≤ m0 ∧ m0 ≤ 6) ∧ (0 ≤ m1 ∧ m1 ≤ 6) ∧ (0 ≤ m2 ∧ m2 ≤ 6) ∧ (0 ≤ m3 ∧ m3 ≤ 6) := by
  rw [hm] at hin
  exact ⟨hin m0 (by simp), hin m1 (by simp), hin m2 (by simp), hin m3 (by simp)⟩
 have bm' : H6.get (H.size + 1 + 1 + 1) = .rw [.int .i64 m0, .int .i64 m1, .int .i64 m2, .int .i64 m3] 119 false [] := by rw [bm, hm]; rfl
 have br6 : BrI ps gs (H6.get mk) := by rw [fr6.same _ hmk]; exact hbr
 refine W_lotsS (x := 0) (J := XJ ps gs pr mk H6) (E := XE ps gs pr mk (H.size + 1 + 1) H6) (K₀ := 1000) (m0 := m0) (m1 := m1) (m2 := m2) (m3 := m3) (b1 := H.size + 1 + 1 + 1) hm6 ?_ ?_ (fun k H' J => J.sz) ?_ (by omega) ?_ (by omega) (by omega) g12 ?_ ?_ (by omega) ?_ ?_
 ·rintro k Ha Hb ⟨h1, h2, h3, h4⟩ fr
  exact ⟨Nat.le_trans h1 fr.size, fun j hj hne => by rw [fr.same j (by omega)]; exact h2 j hj hne, by rw [fr.same _ (by omega)]; exact h3, h4⟩
 ·rintro k Ha Hb j ⟨h1, h2, h3, h4⟩ hj hs' ho
  exact ⟨by omega, fun i hi hne => by rw [ho i (by omega)]; exact h2 i hi hne, by rw [ho _ (by omega)]; exact h3, h4⟩
 ·rintro k Ha ⟨h1, h2, h3, h4⟩
  rw [h2 _ (by omega) (by omega)]; exact bm'
 ·rintro k Ha Hb ⟨i1, i2, i3, i4⟩ ⟨h1, h2, h3, h4⟩ fr
  exact ⟨i1, fun j hj hne => by rw [← fr.same j (by omega)]; exact h2 j hj hne, i3, h4⟩
 ·intro blk
  refine ⟨by (first | omega | (simp only [yz] <;> omega)), fun j hj hne => ?_, ?_, fun x hx h => ?_⟩
  ·rw [get_alloc_lt (by first|omega|(simp only [yz]<;>omega)), get_alloc_lt hj]
  ·rw [get_alloc_lt (by first|omega|(simp only [yz]<;>omega)), get_alloc_lt (by omega)]; exact br6
  ·have := (vl_in hx).1
   omega
 ·rintro M2 hM2 k Ha x e' ⟨h1, h2, h3, h4⟩ hv hx hlb hdf ge ge'
  obtain ⟨M2, rfl⟩ : ∃ M', M2 = M' + 1000 := ⟨M2 - 1000, by omega⟩
  rw [← hm] at hv hx
  have q2 := (h2 _ (by omega) (by omega)).trans b2
  have q3 := (h2 _ (by omega) (by omega)).trans b3
  have q5 := (h2 _ (by omega) (by omega)).trans b5
  have e2 := (ge' 2 (by decide)).trans g2
  have e3 := (ge' 3 (by decide)).trans g3
  have e5 := (ge' 5 (by decide)).trans g5
  have hx4 : x.length = 4 := by rw [LV_len hv, stk_len hl]
  have hx6 := LV_in hv fun n hn => (hin n hn).2
  obtain ⟨y0, y1, y2, y3, rfl⟩ := four hx4
  have dmap : ∃ es c, H.get mk = .map es c := BrI.map hbr
  have smA : ∀ i, i < H.size → i ≠ mk → i ≠ mk → Ha.get i = H.get i := fun i hi hn _ => by rw [h2 i (by omega) hn]; exact fr6.same i hi
  simp only [tv,List.map_cons,List.map_nil] at ge
  simp (disch:=first|(simp only [yk,seval];done)|omega|(simp only [yz]<;>omega)|fail) only [↓yp,yA,ys0,ys1,seval,fitB,newC,endD,endR,yrg,ge]
  refine midY_gen (by simp (disch:=first|(simp only [yk,seval];done)|omega|(simp only [yz]<;>omega)|fail) only [yg,seval]; exact hlb) ?_
  intro bz hbz
  simp (disch:=first|(simp only [yk,seval];done)|omega|(simp only [yz]<;>omega)|fail) only [↓yp,yA,ys0,ys1,seval,fitB,newC,endD,endR,yrg,e2,e3,e5,q2,q3]
  obtain ⟨G, hG⟩ : ∃ G, ((Ha.alloc (.rw [.int .i64 0, .int .i64 0, .int .i64 0, .int .i64 0] 119 false [])).put Ha.size (.rw [.int .i64 y0, .int .i64 y1, .int .i64 y2, .int .i64 y3] 119 false [])).put (H6.size + 1) bz = G := ⟨_, rfl⟩
  have sG : G.size = Ha.size + 1 := by rw [← hG]; (first | omega | (simp only [yz] <;> omega))
  have oG : ∀ j, j < Ha.size → j ≠ H6.size + 1 → G.get j = Ha.get j := fun j hj hn => by rw [← hG, get_put_ne hn, get_put_ne (by omega), get_alloc_lt hj]
  have xG : G.get Ha.size = .rw [.int .i64 y0, .int .i64 y1, .int .i64 y2, .int .i64 y3] 119 false [] := by rw [← hG, get_put_ne (by omega)]; exact get_put_same (by first|omega|(simp only [yz]<;>omega))
  have zG : G.get (H6.size + 1) = bz := by rw [← hG]; exact get_put_same (by first|omega|(simp only [yz]<;>omega))
  rw [hG]
  have smG : ∀ i, i < H.size → i ≠ mk → i ≠ mk → G.get i = H.get i := fun i hi hn hn' => by rw [oG i (by omega) (by omega)]; exact smA i hi hn hn'
  have c93x := c93 (N := M2 + 197) (cap := cap) (cap' := cap') (lo := .int .i64 lots) (s := (y0, y1, y2, y3)) (rw_sm hs (by omega) smG dmap dmap) hl hk (rw_sm hgs (by omega) smG dmap dmap) hgl hgk hx6 sv_int (by rw [oG mk (by omega) (by omega)]; exact h3) (by omega)
  refine resK_lowQ c93x (by omega) ?_
  rintro f _ Hb ⟨rfl, z1, z2, z3⟩
  obtain ⟨br, hbrv⟩ : ∃ v, brg ps gs (l4 (y0, y1, y2, y3)) = v := ⟨_, rfl⟩
  rw [hbrv]
  have q3b : Hb.get (H.size + 1) = .rw [.slice pa pr.length pc] 49 false [] := by rw [z2 _ (by omega) (by omega), oG _ (by omega) (by omega)]; exact q3
  have q5b : Hb.get (H.size + 1 + 1) = .rw [.bool false] 4 false [] := by rw [z2 _ (by omega) (by omega), oG _ (by omega) (by omega)]; exact q5
  have xb : Hb.get Ha.size = .rw [.int .i64 y0, .int .i64 y1, .int .i64 y2, .int .i64 y3] 119 false [] := (z2 _ (by omega) (by omega)).trans xG
  have zb : Hb.get (H6.size + 1) = bz := (z2 _ (by omega) (by omega)).trans zG
  have smb : ∀ i, i < H.size → i ≠ mk → i ≠ mk → Hb.get i = H.get i := fun i hi hn hn' => by rw [z2 i (by omega) hn]; exact smG i hi hn hn'
  have rp : Rw intE Hb pa pr := rw_sm hr (by omega) smb dmap dmap
  have hdfb : Hb.get H6.size = .defer := by rw [z2 _ (by omega) (by omega), oG _ (by omega) (by omega)]; exact hdf
  have hbin : 0 ≤ br ∧ br ≤ 2400 := by rw [← hbrv]; exact brg_in hgk (stk_len hl) hin hv
  have xs : ∀ i, i < pr.length → ∃ a, [y0, y1, y2, y3][i]? = some a ∧ 0 ≤ a ∧ a ≤ 6 := fun i hi => by
   have h4 : i < [y0, y1, y2, y3].length := by rw [hrl] at hi; simp; omega
   exact ⟨[y0, y1, y2, y3][i], List.getElem?_eq_getElem _, hx6 _ (List.getElem_mem h4)⟩
  obtain ⟨zs, hzs⟩ : ∃ z, cstL [y0, y1, y2, y3] pr = z := ⟨_, rfl⟩
  have zat : ∀ i a b, [y0, y1, y2, y3][i]? = some a → pr[i]? = some b → zs[i]? = some (a * b) := fun i a b h1 h2 => by
   rw [← hzs]; unfold cstL; rw [List.getElem?_zipWith, h1, h2]
  have zin : ∀ v ∈ zs, 0 ≤ v ∧ v ≤ 600 := fun v hv => by
   obtain ⟨i, hi⟩ := List.getElem?_of_mem hv
   rw [← hzs] at hi
   unfold cstL at hi
   rw [List.getElem?_zipWith] at hi
   cases h1 : [y0, y1, y2, y3][i]? with
   | none => rw [h1] at hi; cases hi
   | some a =>
    cases h2 : pr[i]? with
    | none => rw [h1, h2] at hi; cases hi
    | some b =>
     rw [h1, h2] at hi
     have hv' : a * b = v := Option.some.inj hi
     have ha := hx6 a (List.mem_of_getElem? h1)
     have hb := hrb b (List.mem_of_getElem? h2)
     rw [← hv']
     exact ⟨Int.mul_nonneg ha.1 hb.1, by have := Int.mul_le_mul ha.2 hb.2 hb.1 (by omega : (0 : Int) ≤ 6); omega⟩
  have zl : zs.length = pr.length := by rw [← hzs]; unfold cstL; rw [List.length_zipWith]; simp; omega
  have hcst : cst [y0, y1, y2, y3] pr = isum zs := by unfold cst; rw [hzs]
  have hbv : brg ps gs [y0, y1, y2, y3] = br := hbrv
  simp (disch:=first|(simp only [yk,seval];done)|omega|(simp only [yz]<;>omega)|fail) only [↓yp,yA,ys0,ys1,seval,fitB,newC,endD,endR,yrg,e2,e3,e5,q3b,st_ldS_49,lenV_slice st_esS_49]
  refine W_while (n := 35) 900 (fun q e'' H'' => ∃ i : Nat, q = pr.length - i ∧ i ≤ pr.length ∧ H'' = Hb ∧ gt 35 e'' 19 = .int .i64 (i : Nat) ∧ gt 35 e'' 18 = .int .i64 (pr.length : Nat) ∧ gt 35 e'' 17 = .slice pa pr.length pc ∧ gt 35 e'' 7 = .int .i64 (br - isum (zs.take i)) ∧ gt 35 e'' 6 = .pointer (some ⟨Ha.size, 0, none⟩) ∧ gt 35 e'' 5 = .pointer (some ⟨H.size + 1 + 1, 0, none⟩) ∧ (i = 0 ∨ 0 < br - isum (zs.take i)))
   ?_ 9 pr.length ⟨0, rfl, by omega, rfl, ?_, ?_, ?_, ?_, ?_, ?_, .inl rfl⟩ (by omega) (by omega)
  rotate_left
  ·simp (disch:=first|(simp only [yk,seval];done)|omega|(simp only [yz]<;>omega)|fail) only [yg,seval] <;> rfl
  ·simp (disch:=first|(simp only [yk,seval];done)|omega|(simp only [yz]<;>omega)|fail) only [yg,seval]
  ·simp (disch:=first|(simp only [yk,seval];done)|omega|(simp only [yz]<;>omega)|fail) only [yg,seval]
  ·simp (disch:=first|(simp only [yk,seval];done)|omega|(simp only [yz]<;>omega)|fail) only [yg,seval,List.take_zero]
   show Value.int .i64 br = .int .i64 (br - 0)
   rw [Int.sub_zero]
  ·simp (disch:=first|(simp only [yk,seval];done)|omega|(simp only [yz]<;>omega)|fail) only [yg,seval]
  ·simp (disch:=first|(simp only [yk,seval];done)|omega|(simp only [yz]<;>omega)|fail) only [yg,seval,e5]
  rintro M3 q ex Hc ⟨i, rfl, hi, rfl, g19, g18, g17, g7, g6, g5', hpos⟩
  simp (disch:=first|(simp only [yk,seval];done)|omega|(simp only [yz]<;>omega)|fail) only [↓yp,yA,ys0,ys1,seval,fitB,newC,endD,endR,yrg,g19,g18]
  refine ⟨fun hT => ?_, fun hT => ?_⟩
  ·have hlt : i < pr.length := by have := of_decide_eq_true hT; omega
   have hw2 : w64 ((i : Int) + 1) = ((i + 1 : Nat) : Int) := by rw [w64_of (by omega)]; omega
   obtain ⟨a, hxa, ha⟩ := xs i hlt
   obtain ⟨b, hb⟩ : ∃ b, pr[i]? = some b := ⟨pr[i], by simp [hlt]⟩
   have hbb := hrb b (List.mem_of_getElem? hb)
   obtain ⟨bp, op, cp, rfl, hbp, hcp, hqp⟩ := rp.at_ hb
   have hp1 : cp[op + i]? = some (.int .i64 b) := by
    have := cell_of (k := op + i * 1) hqp
    rwa [Nat.mul_one] at this
   have hxv : [Value.int .i64 y0, .int .i64 y1, .int .i64 y2, .int .i64 y3][i]? = some (.int .i64 a) := by
    have : (tv [y0, y1, y2, y3])[i]? = some (.int .i64 a) := by unfold tv; rw [List.getElem?_map, hxa]; rfl
    exact this
   have hz := zat i a b hxa hb
   have htk := isum_take hz
   have hzi := zin _ (List.mem_of_getElem? hz)
   have htl := isum_take_le (z := zs) (i := i) fun v hv => (zin v hv).1
   have hnn := isum_nn (z := zs.take i) fun v hv => (zin v (List.mem_of_mem_take hv)).1
   have hsz := isum_le (l := zs) (m := 600) zin
   rw [zl] at hsz
   have w1 : w64 (a * b) = a * b := w64_of (by omega)
   have w2 : w64 (br - isum (zs.take i) - a * b) = br - isum (zs.take (i + 1)) := by rw [w64_of (by omega), htk]; omega
   have hi4 : decide (i < 4) = true := decide_eq_true (by omega)
   have hi4' : decide ((i : Int) < 4) = true := decide_eq_true (by omega)
   cases hle : decide (br - isum (zs.take (i + 1)) ≤ 0)
   ·simp (disch:=first|(simp only [yk,seval];done)|omega|(simp only [yz]<;>omega)|fail) only [↓yp,yA,ys0,ys1,seval,fitB,newC,endD,endR,yrg,g19,g18,g17,g7,g6,g5',A_indexSlice st_esS_49,A_indexArr st_arS_119,hcp,hp1,xb,hxv,w1,w2,hw2,hle,Nat.mul_one]
    refine ⟨pr.length - (i + 1), by omega, i + 1, rfl, by omega, rfl, ?_, ?_, ?_, ?_, ?_, ?_, .inr (by have := of_decide_eq_false hle; omega)⟩
    ·simp (disch:=first|(simp only [yk,seval];done)|omega|(simp only [yz]<;>omega)|fail) only [yg,seval]
    ·simp (disch:=first|(simp only [yk,seval];done)|omega|(simp only [yz]<;>omega)|fail) only [yg,seval,g18]
    ·simp (disch:=first|(simp only [yk,seval];done)|omega|(simp only [yz]<;>omega)|fail) only [yg,seval,g17]
    ·simp (disch:=first|(simp only [yk,seval];done)|omega|(simp only [yz]<;>omega)|fail) only [yg,seval]
    ·simp (disch:=first|(simp only [yk,seval];done)|omega|(simp only [yz]<;>omega)|fail) only [yg,seval,g6]
    ·simp (disch:=first|(simp only [yk,seval];done)|omega|(simp only [yz]<;>omega)|fail) only [yg,seval,g5']
   ·simp (disch:=first|(simp only [yk,seval];done)|omega|(simp only [yz]<;>omega)|fail) only [↓yp,yA,ys0,ys1,seval,fitB,newC,endD,endR,yrg,g19,g18,g17,g7,g6,g5',A_indexSlice st_esS_49,A_indexArr st_arS_119,hcp,hp1,xb,hxv,w1,w2,hw2,hle,Nat.mul_one]
    refine endY_normal (H := _) (l := H6.size + 1) (by rw [zb]; exact hbz) ?_
    refine .inl ⟨rfl, ⟨get_put_same (by omega), by rw [get_put_ne (by omega)]; exact hdfb, by rw [size_put]; omega, fun j hj hne => ?_, by rw [get_put_ne (by omega)]; exact z3, fun x' hx' hvl => ?_⟩, by rw [size_put]; omega, fun j hj hj' => ?_⟩
    ·rw [get_put_ne (by omega), z2 j (by omega) hne, oG j (by omega) (by omega)]; exact h2 j hj hne
    ·by_cases hlt' : vl (stk ps) x' < k
     ·exact h4 x' hx' hlt'
     ·have hxe : x' = [y0, y1, y2, y3] := vl_inj hx' hv (by omega)
      rw [hxe, hbv, hcst]
      have := of_decide_eq_true hle
      have htl' := isum_take_le (z := zs) (i := i + 1) fun v hv => (zin v hv).1
      omega
    ·rw [get_put_ne (by omega), z2 j (by omega) (by omega), oG j hj' (by omega)]
  ·have hie : i = pr.length := by have := of_decide_eq_false hT; omega
   simp (disch:=first|(simp only [yk,seval];done)|omega|(simp only [yz]<;>omega)|fail) only [↓yp,yA,ys0,ys1,seval,fitB,newC,endD,endR,yrg,g5',q5b]
   refine endY_exit (H := _) (l := H6.size + 1) (by rw [get_put_ne (by omega), zb]; exact hbz) ?_
   refine .inr ⟨rfl, ⟨_, _, _, _, _, get_put_same (by first|omega|(simp only [yz]<;>omega))⟩, by rw [get_put_ne (by omega), get_put_ne (by omega)]; exact hdfb, by (first | omega | (simp only [yz] <;> omega)), ⟨by (first | omega | (simp only [yz] <;> omega)), fun j hj hne hn5 => ?_, by rw [get_put_ne (by omega), get_put_ne (by omega)]; exact z3, by rw [get_put_ne (by omega)]; exact get_put_same (by omega), [y0, y1, y2, y3], hv, ?_⟩⟩
   ·rw [get_put_ne (by omega), get_put_ne hn5, z2 j (by omega) hne, oG j (by omega) (by omega)]; exact h2 j hj hne
   ·rw [hbv, hcst]
    subst hie
    have ht : zs.take pr.length = zs := List.take_of_length_le (by omega)
    rw [ht] at hpos
    omega
 ·rintro H'' blk ⟨h1, h2, h3, h4⟩ hdf
  rw [← hm] at h4
  have q5 := (h2 _ (by omega) (by omega)).trans b5
  simp (disch:=first|(simp only [yk,seval];done)|omega|(simp only [yz]<;>omega)|fail) only [↓yp,yA,ys0,ys1,seval,fitB,newC,endD,endR,yrg,g5,q5,scK_ret]
  obtain ⟨H9, h9⟩ := atake_all [H6.size] (H''.put (H6.size + 1) blk) (by simp) fun k hk => by
   obtain rfl : k = H6.size := by simpa using hk
   rw [get_put_ne (by omega)]; exact hdf
  obtain ⟨a1, a2⟩ := atake_fr h9
  have a3 : ∀ i, i < H6.size → H9.get i = H''.get i := fun i hi => by
   rw [a2 i fun hm => by
    have : i = H6.size := by simpa using hm
    omega]
   exact get_put_ne (by omega)
  refine ⟨fun k hk => ?_, by (first | omega | (simp only [yz] <;> omega)), H9, h9, .bool false, ?_, ⟨false, rfl, ?_⟩, ?_, fun i hi hn => ?_, ?_⟩
  ·obtain rfl : k = H6.size := by simpa using hk
   omega
  ·simp (disch:=first|(simp only [yk,seval];done)|omega|(simp only [yz]<;>omega)|fail) only [↓yp,yA,ys0,ys1,seval,fitB,newC,endD,endR,yrg,yg,seval]
  ·refine ⟨fun h => (by cases h), fun ⟨x, hx, hlt⟩ => ?_⟩
   have hvv := vl_in hx
   have := h4 x hx (by omega)
   omega
  ·simp only [size_put] at a1; omega
  ·rw [a3 i (by omega), h2 i (by omega) hn]; exact fr6.same i hi
  ·rw [a3 mk (by omega)]; exact h3
 ·rintro H'' blk ⟨h1, h2, h3, h5, x, hx1, hx2⟩ hdf
  simp (disch:=first|(simp only [yk,seval];done)|omega|(simp only [yz]<;>omega)|fail) only [↓yp,yA,ys0,ys1,seval,fitB,newC,endD,endR,yrg,g5,h5,scK_ret]
  obtain ⟨H9, h9⟩ := atake_all [H6.size] (H''.put (H6.size + 1) blk) (by simp) fun k hk => by
   obtain rfl : k = H6.size := by simpa using hk
   rw [get_put_ne (by omega)]; exact hdf
  obtain ⟨a1, a2⟩ := atake_fr h9
  have a3 : ∀ i, i < H6.size → H9.get i = H''.get i := fun i hi => by
   rw [a2 i fun hm => by
    have : i = H6.size := by simpa using hm
    omega]
   exact get_put_ne (by omega)
  refine ⟨fun k hk => ?_, by (first | omega | (simp only [yz] <;> omega)), H9, h9, .bool true, ?_, ⟨true, rfl, ?_⟩, ?_, fun i hi hn => ?_, ?_⟩
  ·obtain rfl : k = H6.size := by simpa using hk
   omega
  ·simp (disch:=first|(simp only [yk,seval];done)|omega|(simp only [yz]<;>omega)|fail) only [↓yp,yA,ys0,ys1,seval,fitB,newC,endD,endR,yrg,yg,seval]
  ·exact ⟨fun _ => ⟨x, hx1, hx2⟩, fun _ => rfl⟩
  ·simp only [size_put] at a1; omega
  ·rw [a3 i (by omega), h2 i (by omega) hn (by omega)]; exact fr6.same i hi
  ·rw [a3 mk (by omega)]; exact h3
end
end Go.Am.K
namespace Go.Am.K
open Go.Proofs
variable {T : Tab} {P : Program} {N L : Nat} {H H' H'' : AHeap} {Q : Bool → Value → AHeap → Prop}
theorem fn_104 : tabA.fn 104 = some Try.f104 := by kernel_rfl
theorem fn_105 : tabA.fn 105 = some Try.f105 := by kernel_rfl
section
variable {pa : Option Addr} {pc : Nat} {pr : List Int}
theorem c105 {x : Int} (hx : 0 ≤ x ∧ x ≤ 100) : acall tabA (aexec tabA Try.prog (N + 60)) 105 [.int .i64 x] H = some (true, .bool true, H, H.size) := by
 refine call_quiet (k := 5) (rs := [.tmp 2]) rfl fn_105 rfl rfl rfl ?_ rfl
 have h58 := fun (N : Nat) (H : AHeap) => c58 (N := N) (H := H) (n := x) (lo := 0) (hi := 100)
 have hw : wi x 0 100 = true := by unfold wi; simp; omega
 rw [hw] at h58
 simp (disch:=first|(simp only [yk,seval];done)|omega|(simp only [yz]<;>omega)|fail) only [↓yp,yA,ys0,ys1,seval,fitB,newC,endD,endR,yrg,h58]
set_option maxHeartbeats 1000000 in
theorem c104 (hs : Rw intE H pa pr) (hl : pr.length ≤ 8) (hb : ∀ x ∈ pr, 0 ≤ x ∧ x ≤ 100) :
  acall tabA (aexec tabA Try.prog (N + 200)) 104 [.slice pa pr.length pc, .func (.func 105) ⟨[]⟩ ⟨[]⟩] H = some (true, .bool true, H, H.size) := by
 refine call_quiet (k := 18) (rs := [.tmp 4]) rfl fn_104 rfl rfl rfl ?_ rfl
 simp (disch:=first|(simp only [yk,seval];done)|omega|(simp only [yz]<;>omega)|fail) only [↓yp,yA,ys0,ys1,seval,fitB,newC,endD,endR,yrg,lenV_slice st_esS_49]
 refine W_while (n := 18) 100 (fun k e H' => ∃ i : Nat, k = pr.length - i ∧ i ≤ pr.length ∧ gt 18 e 9 = .int .i64 (i : Nat) ∧ gt 18 e 8 = .int .i64 (pr.length : Nat) ∧ gt 18 e 7 = .slice pa pr.length pc ∧ gt 18 e 1 = .func (.func 105) ⟨[]⟩ ⟨[]⟩ ∧ H' = H)
  ?_ 9 pr.length ⟨0, by omega, by omega, by simp (disch:=first|(simp only [yk,seval];done)|omega|(simp only [yz]<;>omega)|fail) only [yg,seval] <;> rfl, by simp (disch:=first|(simp only [yk,seval];done)|omega|(simp only [yz]<;>omega)|fail) only [yg,seval], by simp (disch:=first|(simp only [yk,seval];done)|omega|(simp only [yz]<;>omega)|fail) only [yg,seval], by simp (disch:=first|(simp only [yk,seval];done)|omega|(simp only [yz]<;>omega)|fail) only [yg,seval], rfl⟩ (by omega) (by omega)
 rintro M k e H' ⟨i, rfl, hi, g9, g8, g7, g1, rfl⟩
 simp (disch:=first|(simp only [yk,seval];done)|omega|(simp only [yz]<;>omega)|fail) only [↓yp,yA,ys0,ys1,seval,fitB,newC,endD,endR,yrg,g9,g8,g7,g1]
 refine ⟨fun hlt => ?_, fun hlt => ?_⟩
 ·have hi' : i < pr.length := by have := of_decide_eq_true hlt; omega
  have hw2 : w64 ((i : Int) + 1) = ((i + 1 : Nat) : Int) := by rw [w64_of (by omega)]; omega
  obtain ⟨x, hx⟩ : ∃ x, pr[i]? = some x := ⟨pr[i], by simp [hi']⟩
  obtain ⟨b, o, c, rfl, hb', hc, hq⟩ := hs.at_ hx
  have hx1 : c[o + i]? = some (.int .i64 x) := by
   have := cell_of (k := o + i * 1) hq
   rwa [Nat.mul_one] at this
  have h105 := fun (N : Nat) (H : AHeap) => c105 (N := N) (H := H) (hb x (List.mem_of_getElem? hx))
  simp (disch:=first|(simp only [yk,seval];done)|omega|(simp only [yz]<;>omega)|fail) only [↓yp,yA,ys0,ys1,seval,fitB,newC,endD,endR,yrg,g9,g8,g7,g1,A_indexSlice st_esS_49,hc,hx1,Nat.mul_one,h105,hw2]
  refine ⟨pr.length - (i + 1), by omega, i + 1, rfl, by omega, ?_, ?_, ?_, ?_, rfl⟩
  ·simp (disch:=first|(simp only [yk,seval];done)|omega|(simp only [yz]<;>omega)|fail) only [yg,seval]
  ·simp (disch:=first|(simp only [yk,seval];done)|omega|(simp only [yz]<;>omega)|fail) only [yg,seval,g8]
  ·simp (disch:=first|(simp only [yk,seval];done)|omega|(simp only [yz]<;>omega)|fail) only [yg,seval,g7]
  ·simp (disch:=first|(simp only [yk,seval];done)|omega|(simp only [yz]<;>omega)|fail) only [yg,seval,g1]
 ·simp (disch:=first|(simp only [yk,seval];done)|omega|(simp only [yz]<;>omega)|fail) only [↓yp,yA,ys0,ys1,seval,fitB,newC,endD,endR,yrg]
theorem st_mkS_49 : mkS tabA 49 = some (3, .int .i64 0, 1, 8) := by kernel_rfl
theorem made_int : ∀ {n : Nat}, n ≤ 4 → (madeCells (Value.int .i64 0).cells (n * 1)).toList = intE.fl (List.replicate n 0) ∧ allGrV (madeCells (Value.int .i64 0).cells (n * 1)).toList = true
 | 0, _ => ⟨by kernel_rfl, by kernel_rfl⟩
 | 1, _ => ⟨by kernel_rfl, by kernel_rfl⟩
 | 2, _ => ⟨by kernel_rfl, by kernel_rfl⟩
 | 3, _ => ⟨by kernel_rfl, by kernel_rfl⟩
 | 4, _ => ⟨by kernel_rfl, by kernel_rfl⟩
 | _ + 5, h => by omega
set_option maxHeartbeats 1000000 in
theorem c107 {x : List Int} (hx4 : x.length = 4) (hx : ∀ v ∈ x, 0 ≤ v ∧ v ≤ 6) (hs : Rw intE H pa pr) (h1 : 1 ≤ pr.length) (hl : pr.length ≤ 4) (hb : ∀ x ∈ pr, 0 ≤ x ∧ x ≤ 100) :
  acall tabA (aexec tabA Try.prog (N + 400)) 107 [.agg ⟨tv x⟩, .slice pa pr.length pc] H = some (true, .int .i64 (cst x pr), H, H.size) := by
 refine call_quiet (k := 29) (rs := [.tmp 4]) rfl fn_107 rfl rfl rfl ?_ rfl
 simp (disch := (first | (simp only [ne_eq,Nat.reduceEqDiff,not_false_eq_true,Nat.reduceLT]; done) | omega | (simp only [yz] <;> omega) | fail)) only [↓yp,yA,ys0,ys1,Nat.reduceAdd,Nat.reduceMul,Nat.reduceSub,Nat.reduceBEq,Nat.reduceEqDiff,Nat.reduceLT,Nat.reduceLeDiff,reduceIte,Int.reduceAdd,Int.reduceSub,Int.reduceMul,Int.reduceLT,Int.reduceLE,Int.reduceEq,Int.reduceToNat,Int.reduceNeg,fitB,newC,endD,endR,yrg,lenV_slice st_esS_49]
 obtain ⟨ms1, ms2⟩ := made_int hl
 refine A_make_of (m := (pr.length : Int)) st_mkS_49 (by simp (disch := (first | (simp only [ne_eq,Nat.reduceEqDiff,not_false_eq_true,Nat.reduceLT]; done) | omega | (simp only [yz] <;> omega) | fail)) only [↓yp,yA,ys0,ys1,Nat.reduceAdd,Nat.reduceMul,Nat.reduceSub,Nat.reduceBEq,Nat.reduceEqDiff,Nat.reduceLT,Nat.reduceLeDiff,reduceIte,Int.reduceAdd,Int.reduceSub,Int.reduceMul,Int.reduceLT,Int.reduceLE,Int.reduceEq,Int.reduceToNat,Int.reduceNeg,fitB,newC,endD,endR,yrg]) (by omega) (by omega) (by omega) (by rw [Int.toNat_natCast]; exact ms2) (by first|omega|(simp only [yz]<;>omega)) ?_
 rw [Int.toNat_natCast, ms1]
 obtain ⟨zs, hzs⟩ : ∃ z, cstL x pr = z := ⟨_, rfl⟩
 have zat : ∀ i a b, x[i]? = some a → pr[i]? = some b → zs[i]? = some (a * b) := fun i a b h1 h2 => by
  rw [← hzs]; unfold cstL; rw [List.getElem?_zipWith, h1, h2]
 have zl : zs.length = pr.length := by rw [← hzs]; unfold cstL; rw [List.length_zipWith]; omega
 simp (disch := (first | (simp only [ne_eq,Nat.reduceEqDiff,not_false_eq_true,Nat.reduceLT]; done) | omega | (simp only [yz] <;> omega) | fail)) only [↓yp,yA,ys0,ys1,Nat.reduceAdd,Nat.reduceMul,Nat.reduceSub,Nat.reduceBEq,Nat.reduceEqDiff,Nat.reduceLT,Nat.reduceLeDiff,reduceIte,Int.reduceAdd,Int.reduceSub,Int.reduceMul,Int.reduceLT,Int.reduceLE,Int.reduceEq,Int.reduceToNat,Int.reduceNeg,fitB,newC,endD,endR,yrg,lenV_slice st_esS_49]
 refine W_while (n := 29) 250 (fun q e' H' => ∃ (i : Nat) (ws : List Int), q = pr.length - i ∧ i ≤ pr.length ∧ gt 29 e' 13 = .int .i64 (i : Nat) ∧ gt 29 e' 12 = .int .i64 (pr.length : Nat) ∧ gt 29 e' 11 = .slice pa pr.length pc ∧ gt 29 e' 5 = .slice (some ⟨H.size + 1, 0, none⟩) pr.length pr.length ∧ gt 29 e' 2 = .pointer (some ⟨H.size, 0, none⟩) ∧ Fr H H' ∧ H.size + 1 < H'.size ∧ H'.get H.size = .rw (tv x) 119 false [] ∧ H'.get (H.size + 1) = .rw (intE.fl ws) 3 false [] ∧ ws.length = pr.length ∧ ∀ j, j < i → ws[j]? = zs[j]?)
  ?_ 9 pr.length ⟨0, List.replicate pr.length 0, by omega, by omega, ?_, ?_, ?_, ?_, ?_, by (repeat (first | exact Fr.refl _ | assumption | refine Fr.allocd ?_ _ | refine Fr.put ?_ (by first | omega | (simp only [yz] <;> omega)) _)), by (first | omega | (simp only [yz] <;> omega)), ?_, ?_, by simp, fun j h => by omega⟩ (by omega) (by omega)
 rotate_left
 ·simp (disch := (first | (simp only [ne_eq,Nat.reduceEqDiff,not_false_eq_true,Nat.reduceLT]; done) | omega | (simp only [yz] <;> omega) | fail)) only [yg,seval] <;> rfl
 ·simp (disch := (first | (simp only [ne_eq,Nat.reduceEqDiff,not_false_eq_true,Nat.reduceLT]; done) | omega | (simp only [yz] <;> omega) | fail)) only [yg,seval]
 ·simp (disch := (first | (simp only [ne_eq,Nat.reduceEqDiff,not_false_eq_true,Nat.reduceLT]; done) | omega | (simp only [yz] <;> omega) | fail)) only [yg,seval]
 ·simp (disch := (first | (simp only [ne_eq,Nat.reduceEqDiff,not_false_eq_true,Nat.reduceLT]; done) | omega | (simp only [yz] <;> omega) | fail)) only [yg,seval]
 ·simp (disch := (first | (simp only [ne_eq,Nat.reduceEqDiff,not_false_eq_true,Nat.reduceLT]; done) | omega | (simp only [yz] <;> omega) | fail)) only [yg,seval]
 ·simp (disch := (first | (simp only [ne_eq,Nat.reduceEqDiff,not_false_eq_true,Nat.reduceLT]; done) | omega | (simp only [yz] <;> omega) | fail)) only [yg,seval]
 ·simp (disch := (first | (simp only [ne_eq,Nat.reduceEqDiff,not_false_eq_true,Nat.reduceLT]; done) | omega | (simp only [yz] <;> omega) | fail)) only [yg,seval]
 rintro M1 q e H1 ⟨i, ws, rfl, hi, g13, g12, g11, g5, g2, fr, sz, bx, bw, wl, cat⟩
 simp (disch := (first | (simp only [ne_eq,Nat.reduceEqDiff,not_false_eq_true,Nat.reduceLT]; done) | omega | (simp only [yz] <;> omega) | fail)) only [↓yp,yA,ys0,ys1,Nat.reduceAdd,Nat.reduceMul,Nat.reduceSub,Nat.reduceBEq,Nat.reduceEqDiff,Nat.reduceLT,Nat.reduceLeDiff,reduceIte,Int.reduceAdd,Int.reduceSub,Int.reduceMul,Int.reduceLT,Int.reduceLE,Int.reduceEq,Int.reduceToNat,Int.reduceNeg,fitB,newC,endD,endR,yrg,g13,g12]
 refine ⟨fun hT => ?_, fun hT => ?_⟩
 ·have hlt : i < pr.length := by have := of_decide_eq_true hT; omega
  have hw2 : w64 ((i : Int) + 1) = ((i + 1 : Nat) : Int) := by rw [w64_of (by omega)]; omega
  obtain ⟨a, ha⟩ : ∃ a, x[i]? = some a := ⟨x[i]'(by omega), List.getElem?_eq_getElem _⟩
  obtain ⟨b, hbp⟩ : ∃ b, pr[i]? = some b := ⟨pr[i], by simp [hlt]⟩
  have ha6 := hx a (List.mem_of_getElem? ha)
  have hb1 := hb b (List.mem_of_getElem? hbp)
  obtain ⟨bp, op, cp, rfl, hbl, hcp, hqp⟩ := hs.at_ hbp
  have hcp' : cellsOf (H1.get bp) = some cp := by rw [fr.same bp hbl]; exact hcp
  have hp1 : cp[op + i]? = some (.int .i64 b) := by
   have := cell_of (k := op + i * 1) hqp
   rwa [Nat.mul_one] at this
  have hxv : (tv x)[i]? = some (.int .i64 a) := by unfold tv; rw [List.getElem?_map, ha]; rfl
  have hm : 0 ≤ a * b ∧ a * b ≤ 6 * 100 := ⟨Int.mul_nonneg ha6.1 hb1.1, Int.mul_le_mul ha6.2 hb1.2 hb1.1 (by omega)⟩
  have w1 : w64 (a * b) = a * b := w64_of (by omega)
  have hset : newC i [.int .i64 (a * b)] (intE.fl ws) = intE.fl (ws.set i (a * b)) := by
   have := newC_fl (E := intE) (l := ws) (k := i) (s := a * b) (by omega)
   rwa [show i * intE.z = i from Nat.mul_one i] at this
  have hfl : (intE.fl ws).length = pr.length := by rw [fl_length, wl]; exact Nat.mul_one _
  have hfit : decide (i + 1 ≤ pr.length) = true := decide_eq_true (by omega)
  obtain ⟨wf, hwf⟩ : ∃ f, intE.fl ws = f := ⟨_, rfl⟩
  obtain ⟨wf', hwf'⟩ : ∃ f, intE.fl (ws.set i (a * b)) = f := ⟨_, rfl⟩
  rw [hwf] at bw hset hfl
  rw [hwf'] at hset
  have hset' : List.take i wf ++ [.int .i64 (a * b)] ++ List.drop (i + 1) wf = wf' := hset
  simp (disch := (first | (simp only [ne_eq,Nat.reduceEqDiff,not_false_eq_true,Nat.reduceLT]; done) | omega | (simp only [yz] <;> omega) | fail)) only [↓yp,yA,ys0,ys1,Nat.reduceAdd,Nat.reduceMul,Nat.reduceSub,Nat.reduceBEq,Nat.reduceEqDiff,Nat.reduceLT,Nat.reduceLeDiff,reduceIte,Int.reduceAdd,Int.reduceSub,Int.reduceMul,Int.reduceLT,Int.reduceLE,Int.reduceEq,Int.reduceToNat,Int.reduceNeg,fitB,newC,endD,endR,yrg,g13,g12,g11,g5,g2,A_indexSlice st_esS_49,A_indexArr st_arS_119,hcp',hp1,bx,hxv,w1,bw,hfl,hfit,hset',Nat.mul_one,Nat.zero_add,hw2]
  refine ⟨pr.length - (i + 1), by omega, i + 1, ws.set i (a * b), rfl, by omega, ?_, ?_, ?_, ?_, ?_, Fr.put fr (by omega) _, by (first | omega | (simp only [yz] <;> omega)), ?_, ?_, by rw [List.length_set]; exact wl, fun j hj => ?_⟩
  ·simp (disch := (first | (simp only [ne_eq,Nat.reduceEqDiff,not_false_eq_true,Nat.reduceLT]; done) | omega | (simp only [yz] <;> omega) | fail)) only [yg,seval]
  ·simp (disch := (first | (simp only [ne_eq,Nat.reduceEqDiff,not_false_eq_true,Nat.reduceLT]; done) | omega | (simp only [yz] <;> omega) | fail)) only [yg,seval,g12]
  ·simp (disch := (first | (simp only [ne_eq,Nat.reduceEqDiff,not_false_eq_true,Nat.reduceLT]; done) | omega | (simp only [yz] <;> omega) | fail)) only [yg,seval,g11]
  ·simp (disch := (first | (simp only [ne_eq,Nat.reduceEqDiff,not_false_eq_true,Nat.reduceLT]; done) | omega | (simp only [yz] <;> omega) | fail)) only [yg,seval,g5]
  ·simp (disch := (first | (simp only [ne_eq,Nat.reduceEqDiff,not_false_eq_true,Nat.reduceLT]; done) | omega | (simp only [yz] <;> omega) | fail)) only [yg,seval,g2]
  ·simp (disch := (first | (simp only [ne_eq,Nat.reduceEqDiff,not_false_eq_true,Nat.reduceLT]; done) | omega | (simp only [yz] <;> omega) | fail)) only [yg,seval,bx]
  ·rw [hwf']; exact get_put_same (by omega)
  ·by_cases hji : j = i
   ·subst hji
    rw [List.getElem?_set_self (by omega), zat j a b ha hbp]
   ·rw [List.getElem?_set_ne (Ne.symm hji)]
    exact cat j (by omega)
 ·have hie : i = pr.length := by have := of_decide_eq_false hT; omega
  have hwz : ws = zs := by
   apply List.ext_getElem?
   intro j
   by_cases hj : j < pr.length
   ·exact cat j (by omega)
   ·rw [List.getElem?_eq_none (by omega), List.getElem?_eq_none (by omega)]
  have zin : ∀ v ∈ zs, 0 ≤ v ∧ v ≤ 1000000 := fun v hv => by
   obtain ⟨i, hi⟩ := List.getElem?_of_mem hv
   have hil := (List.getElem?_eq_some_iff.1 hi).1
   have h1 := zat i (x[i]'(by omega)) (pr[i]'(by omega)) (List.getElem?_eq_getElem _) (List.getElem?_eq_getElem _)
   rw [hi] at h1
   have hv' := Option.some.inj h1
   have ha := hx _ (List.getElem_mem (show i < x.length by omega))
   have hb := hb _ (List.getElem_mem (show i < pr.length by omega))
   rw [hv']
   exact ⟨Int.mul_nonneg ha.1 hb.1, by have := Int.mul_le_mul ha.2 hb.2 hb.1 (by omega : (0 : Int) ≤ 6); omega⟩
  subst hwz
  have rw1 : Rw intE H1 (some ⟨H.size + 1, 0, none⟩) ws := Rw.of (r := []) sz (by rw [bw]; rfl) (by rw [List.append_nil])
  have h103 := fun (N : Nat) => c103 (N := N) (cap := pr.length) rw1 (by omega) zin
  rw [wl] at h103
  have hc : cst x pr = isum ws := by unfold cst; rw [hzs]
  simp (disch := (first | (simp only [ne_eq,Nat.reduceEqDiff,not_false_eq_true,Nat.reduceLT]; done) | omega | (simp only [yz] <;> omega) | fail)) only [↓yp,yA,ys0,ys1,Nat.reduceAdd,Nat.reduceMul,Nat.reduceSub,Nat.reduceBEq,Nat.reduceEqDiff,Nat.reduceLT,Nat.reduceLeDiff,reduceIte,Int.reduceAdd,Int.reduceSub,Int.reduceMul,Int.reduceLT,Int.reduceLE,Int.reduceEq,Int.reduceToNat,Int.reduceNeg,fitB,newC,endD,endR,yrg,g5,h103,hc]
end
end Go.Am.K
namespace Go.Am.K
open Go.Proofs
variable {T : Tab} {P : Program} {N L : Nat} {H H' H'' : AHeap} {Q : Bool → Value → AHeap → Prop}
section
variable {a a' pa : Option Addr} {cap cap' pc k : Nat} {ps : List Pk} {gs : List Gd} {pr : List Int}
theorem c106M {mk : Nat} {lots : Int} (h : StR H a a' ps gs lots) (hr : Rw intE H pa pr) (hrl : pr.length = ps.length) (hrb : ∀ x ∈ pr, 0 ≤ x ∧ x ≤ 100) (hmk : mk < H.size) (hbr : BrI ps gs (H.get mk)) (hLm : L ≤ mk) {M : Nat} (hM : 4500 ≤ M)
  (hq : ∀ f b H', (b = true ↔ ∃ x, LV (stk ps) x ∧ cst x pr < brg ps gs x) → H.size ≤ H'.size → (∀ i, i < H.size → i ≠ mk → H'.get i = H.get i) → Q f (.bool b) H') :
  resK (acall tabA (aexec tabA Try.prog M) 106 [.agg ⟨[.slice a ps.length cap, .slice a' gs.length cap', .int .i64 lots, .map (some mk)]⟩, .slice pa pr.length pc] H) L Q := by
 obtain ⟨N, rfl⟩ : ∃ N, M = N + 4500 := ⟨M - 4500, by omega⟩
 refine resK_mono (c106 h.hs h.hg h.st.l4 h.st.l1 h.pk h.st.g4 h.gd hr hrl hrb hmk hbr hLm) ?_
 rintro f v H' ⟨⟨b, rfl, h1⟩, h2, h3, -⟩
 exact hq _ _ _ h1 h2 h3
def bndV (b : Bool) (ps : List Pk) (pr : List Int) : Value := .tuple ⟨[.int .i64 (bif b then 0 else cst (stk ps) pr), .int .i64 (bif b then 8 else 0)]⟩
set_option maxHeartbeats 4000000 in
set_option maxRecDepth 10000 in
theorem c47 (h : StR H a a' ps gs (k : Int)) (hr : Rw intE H pa pr) (hrl : pr.length = ps.length) (hrb : ∀ x ∈ pr, 0 ≤ x ∧ x ≤ 100) (hL : L ≤ H.size) {M : Nat} (hM : 5000 ≤ M)
  (hq : ∀ f b H', Fr H H' → (b = true ↔ ∃ x, LV (stk ps) x ∧ cst x pr < brg ps gs x) → Q f (bndV b ps pr) H') :
  resK (acall tabA (aexec tabA Try.prog M) 47 [.agg ⟨[.slice a ps.length cap, .slice a' gs.length cap', .int .i64 (k : Int)]⟩, .slice pa pr.length pc] H) L Q := by
 obtain ⟨N, rfl⟩ : ∃ N, M = N + 5000 := ⟨M - 5000, by omega⟩
 refine call_keep tabA_fr (k := 34) (rs := [.tmp 4, .tmp 5]) (R := fun v H' => ∃ b, v = bndV b ps pr ∧ Fr H H' ∧ (b = true ↔ ∃ x, LV (stk ps) x ∧ cst x pr < brg ps gs x)) rfl fn_47 rfl rfl rfl hL ?_ ?_ ?_
 rotate_left
 ·rintro v H' ⟨b, rfl, h1, h2⟩; exact hq _ _ _ h1 h2
 ·rintro v H' ⟨b, rfl, h1, h2⟩ _ _; exact hq _ _ _ (Fr.refl _) h2
 have hst := h.st
 have hl1 := hst.l1
 have hl4 := hst.l4
 have fr0 : Fr H (H.alloc (.rw [.slice a ps.length cap, .slice a' gs.length cap', .int .i64 (k : Int)] 25 false [])) := by (repeat (first | exact Fr.refl _ | assumption | refine Fr.allocd ?_ _ | refine Fr.put ?_ (by first | omega | (simp only [yz] <;> omega)) _))
 have h16 := fun (N : Nat) => c16 (N := N) (cap := cap) (cap' := cap') (lots := (k : Int)) (h.hs.fr fr0) (h.hg.fr fr0)
 rw [h.ok] at h16
 have d00 : decide ((0 : Int) = 0) = true := rfl
 simp (disch:=first|(simp only [yk,seval];done)|omega|(simp only [yz]<;>omega)|fail) only [↓yp,yA,ys0,ys1,seval,fitB,newC,endD,endR,yrg,h16,d00]
 refine c77 (by first|omega|(simp only [yz]<;>omega)) (by omega) ?_
 intro mk H1 fr1 k1 k2 k3
 have s1 := fr1.size
 have o1 := fr1.same
 simp only [size_alloc] at s1 k1 o1
 have frA : Fr H H1 := fr0.trans fr1
 have b2 : H1.get H.size = .rw [.slice a ps.length cap, .slice a' gs.length cap', .int .i64 (k : Int)] 25 false [] := by rw [o1 _ (by omega)]; exact get_alloc_same
 have dll : decide ((pr.length : Int) = (ps.length : Int)) = true := decide_eq_true (by omega)
 have fE : Fr H1 ((H1.alloc (.rw [.slice none 0 0, .slice none 0 0, .int .i64 0, .map none] 124 false [])).put H1.size (.rw [.slice a ps.length cap, .slice a' gs.length cap', .int .i64 (k : Int), .map (some mk)] 124 false [])) := by (repeat (first | exact Fr.refl _ | assumption | refine Fr.allocd ?_ _ | refine Fr.put ?_ (by first | omega | (simp only [yz] <;> omega)) _))
 have h104 := fun (N : Nat) => c104 (N := N) (pc := pc) (hr.fr (frA.trans fE)) (by omega) hrb
 simp (disch:=first|(simp only [yk,seval];done)|omega|(simp only [yz]<;>omega)|fail) only [↓yp,yA,ys0,ys1,seval,fitB,newC,endD,endR,yrg,one_map,one_map',lenV_slice st_esS_49,lenV_slice st_esS_22,b2,dll,h104]
 refine c106M (h.fr (frA.trans fE)) (hr.fr (frA.trans fE)) hrl hrb (by first|omega|(simp only [yz]<;>omega)) (by rw [fE.same _ k2, k3]; exact BrI.nil) (by omega) (by omega) ?_
 intro f b H2 hb z1 z2
 simp only [size_put,size_alloc] at z1 z2
 have frB : Fr H H2 := ⟨by omega, fun j hj => by rw [z2 j (by omega) (by omega), get_put_ne (by omega), get_alloc_lt (by omega)]; exact frA.same j hj⟩
 cases b
 ·have b7 : H2.get H1.size = .rw [.slice a ps.length cap, .slice a' gs.length cap', .int .i64 (k : Int), .map (some mk)] 124 false [] := by rw [z2 _ (by omega) (by omega)]; exact get_put_same (by first|omega|(simp only [yz]<;>omega))
  have h102 := fun (N : Nat) => c102 (N := N) (cap := cap) (g := .slice a' gs.length cap') (lo := .int .i64 (k : Int)) (mp := .map (some mk)) (h.hs.fr frB) hl4
  have h107 := fun (N : Nat) => c107 (N := N) (pc := pc) (stk_len hl4) (stk_in h.pk) (hr.fr frB) (by omega) (by omega) hrb
  simp (disch:=first|(simp only [yk,seval];done)|omega|(simp only [yz]<;>omega)|fail) only [↓yp,yA,ys0,ys1,seval,fitB,newC,endD,endR,yrg,one_map,one_map',b7,h102,h107]
  exact ⟨false, rfl, frB, hb⟩
 ·simp (disch:=first|(simp only [yk,seval];done)|omega|(simp only [yz]<;>omega)|fail) only [↓yp,yA,ys0,ys1,seval,fitB,newC,endD,endR,yrg]
  exact ⟨true, rfl, frB, hb⟩
end
end Go.Am.K
