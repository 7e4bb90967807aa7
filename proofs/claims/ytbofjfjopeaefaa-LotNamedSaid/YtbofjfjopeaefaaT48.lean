import Derived.Test.YtbofjfjopeaefaaT47
import Derived.Test.YtbofjfjopeaefaaT45
import Derived.Test.YtbofjfjopeaefaaT46
import Derived.Test.YtbofjfjopeaefaaT43
set_option linter.unusedSimpArgs false
set_option linter.unusedVariables false
namespace Go.Am.K
open Go.Proofs
variable {T : Tab} {P : Program} {N L : Nat} {H H' H'' : AHeap} {Q : Bool → Value → AHeap → Prop}
section
variable {a a' : Option Addr} {cap cap' : Nat} {ps : List Pk} {gs : List Gd} {lots : Int}
end
end Go.Am.K
namespace Go.Am.K
open Go.Proofs
variable {T : Tab} {P : Program} {N L : Nat} {H H' H'' : AHeap} {Q : Bool → Value → AHeap → Prop}
section
variable {a a' : Option Addr} {cap cap' : Nat} {ps : List Pk} {gs : List Gd} {lots : Int}
set_option maxHeartbeats 4000000 in
theorem c14o (hs : Rw pkE H a ps) (hg : Rw gdE H a' gs) (hl : ps.length ≤ 6) (hgl : gs.length ≤ 6) (hp1 : ps ≠ []) (hg1 : gs ≠ []) (hL : L ≤ H.size) {M : Nat} (hM : 200 ≤ M)
  (hq : ∀ k c k' c' H', Fr H H' → H.size ≤ k → k < k' → k' < H'.size → H'.get k = .rw (pkE.fl ps) 87 true [] → H'.get k' = .rw (gdE.fl gs) 77 true [] → Q false (.agg ⟨[.slice (some ⟨k, 0, none⟩) ps.length c, .slice (some ⟨k', 0, none⟩) gs.length c', .int .i64 lots]⟩) H') :
  resK (acall tabA (aexec tabA Try.prog M) 14 [.agg ⟨[.slice a ps.length cap, .slice a' gs.length cap', .int .i64 lots]⟩] H) L Q := by
 obtain ⟨N, rfl⟩ : ∃ N, M = N + 200 := ⟨M - 200, by omega⟩
 refine call_fls (R := fun v H' => ∃ k c k' c', v = .agg ⟨[.slice (some ⟨k, 0, none⟩) ps.length c, .slice (some ⟨k', 0, none⟩) gs.length c', .int .i64 lots]⟩ ∧ Fr H H' ∧ H.size ≤ k ∧ k < k' ∧ k' < H'.size ∧ H'.get k = .rw (pkE.fl ps) 87 true [] ∧ H'.get k' = .rw (gdE.fl gs) 77 true []) (k := 12) (rs := [.cell 2 25]) rfl fn_14 rfl rfl rfl hL ?_ ?_ ?_
 rotate_left
 ·rintro v H' ⟨k, c, k', c', rfl, -⟩; exact gr_two (.inl (by simp))
 ·rintro v H' ⟨k, c, k', c', rfl, h1, h2, h3, h4, h5, h6⟩
  exact hq _ _ _ _ _ h1 h2 h3 h4 h5 h6
 have fr0 : Fr H ((H.alloc (.rw [.slice a ps.length cap, .slice a' gs.length cap', .int .i64 lots] 25 false [])).alloc (.rw [.slice none 0 0, .slice none 0 0, .int .i64 0] 25 false [])) := by (repeat (first | exact Fr.refl _ | assumption | refine Fr.allocd ?_ _ | refine Fr.put ?_ (by first | omega | (simp only [yz] <;> omega)) _))
 simp (disch:=first|(simp only [yk,seval];done)|omega|(simp only [yz]<;>omega)|fail) only [↓yp,yq0,yq1,yq2,yq3,yq4,yl,ys0,ys1,seval,fitB,newC,endD,endR,yrg]
 refine W_drawR (pl := []) [2, 5, 7, 9] [(1, 1), (1, 2), (1, 3), (1, 4), (4, 2), (4, 3), (4, 4)] (planK_of rfl) (by kernel_rfl) (by kernel_rfl) (by kernel_rfl) (by first|omega|(simp only [yz]<;>omega)) ?_
 simp (disch:=first|(simp only [yk,seval];done)|omega|(simp only [yz]<;>omega)|fail) only [↓yp,yq0,yq1,yq2,yq3,yq4,yl,ys0,ys1,seval,fitB,newC,endD,endR,yrg]
 refine c56 (hs.fr fr0) hp1 (by omega) (by first|omega|(simp only [yz]<;>omega)) (by omega) ?_
 intro k cc H1 fr1 k1 k2 k3
 have f1 := fr1.size
 have s1 := fr1.same
 simp only [size_alloc] at f1 s1 k1
 simp (disch:=first|(simp only [yk,seval];done)|omega|(simp only [yz]<;>omega)|fail) only [↓yp,yq0,yq1,yq2,yq3,yq4,yl,ys0,ys1,seval,fitB,newC,endD,endR,yrg,s1]
 refine c57 (hg.fr (fr0.trans fr1)) hg1 (by omega) (by first|omega|(simp only [yz]<;>omega)) (by omega) ?_
 intro k' cc' H2 fr2 k1' k2' k3'
 have f2 := fr2.size
 have s2 := fr2.same
 simp (disch:=first|(simp only [yk,seval];done)|omega|(simp only [yz]<;>omega)|fail) only [↓yp,yq0,yq1,yq2,yq3,yq4,yl,ys0,ys1,seval,fitB,newC,endD,endR,yrg,s2,s1]
 refine ⟨k, cc, k', cc', rfl, ?_, by omega, by omega, by (first | omega | (simp only [yz] <;> omega)), ?_, ?_⟩
 ·exact Fr.put (Fr.put (Fr.put ((fr0.trans fr1).trans fr2) (by omega) _) (by omega) _) (by omega) _
 ·rw [get_put_ne (by omega), get_put_ne (by omega), get_put_ne (by omega), s2 _ k2, k3]
 ·rw [get_put_ne (by omega), get_put_ne (by omega), get_put_ne (by omega), k3']
end
end Go.Am.K
namespace Go.Am.K
open Go.Proofs
variable {T : Tab} {P : Program} {N L : Nat} {H H' H'' : AHeap} {Q : Bool → Value → AHeap → Prop}
theorem newC_pr {hs : List Gd} {k : Nat} {g : Gd} {v : Int} (hk : hs[k]? = some g) : newC (k * 2 + 1) [.int .i64 v] (gdE.fl hs) = gdE.fl (hs.set k ⟨g.fo, v⟩) := by
 obtain ⟨h, hr⟩ := List.getElem?_eq_some_iff.1 hk
 have e : hs = hs.take k ++ (g :: hs.drop (k + 1)) := by
  rw [← hr, List.getElem_cons_drop, List.take_append_drop]
 have hk : (gdE.fl (hs.take k)).length = k * 2 := by rw [fl_length, List.length_take]; show _ * 2 = _; congr 1; omega
 have e2 : gdE.fl hs = gdE.fl (hs.take k) ++ (gdE.f g ++ gdE.fl (hs.drop (k + 1))) := by
  conv => lhs; rw [e]
  rw [fl_app]; rfl
 have e3 : gdE.fl (hs.set k ⟨g.fo, v⟩) = gdE.fl (hs.take k) ++ (gdE.f ⟨g.fo, v⟩ ++ gdE.fl (hs.drop (k + 1))) := by
  rw [List.set_eq_take_append_cons_drop, if_pos h, fl_app]; rfl
 rw [e2, e3, ← hk, newC_app, newC_pre (by show 1 + 1 ≤ 2; omega)]
 rfl
theorem dear_one {gs : List Gd} : dearG 1 gs = gs := by
 unfold dearG
 have : (fun g : Gd => ({ fo := g.fo, pr := 1 * g.pr } : Gd)) = id := by funext g; simp
 rw [this, List.map_id]
structure ND (H' : AHeap) (i8 i12 b1 c1 b2 c2 b4 c4 b9 c9 b10 c10 b13 c13 : Nat) (ps qs : List Pk) (gs : List Gd) (lots : Int) (l ms : List Int) (σ : List Nat) (t : Int) (e : VT) : Prop where
 lt : LtR H' (some ⟨b1, 0, none⟩) (some ⟨b2, 0, none⟩) (some ⟨b4, 0, none⟩) ps gs lots l
 lo : LtR H' (some ⟨b9, 0, none⟩) (some ⟨b10, 0, none⟩) (some ⟨b13, 0, none⟩) qs gs lots ms
 mv : Mv σ ps qs
 ml : rd σ ms = l
 z8 : i8 < H'.size
 z12 : i12 < H'.size
 b8 : H'.get i8 = .rw [.slice (some ⟨b1, 0, none⟩) ps.length c1, .slice (some ⟨b2, 0, none⟩) gs.length c2, .int .i64 lots] 25 false []
 b12 : H'.get i12 = .rw [.slice (some ⟨b9, 0, none⟩) qs.length c9, .slice (some ⟨b10, 0, none⟩) gs.length c10, .int .i64 lots] 25 false []
 g8 : gt 209 e 8 = .pointer (some ⟨i8, 0, none⟩)
 g10 : gt 209 e 10 = .slice (some ⟨b4, 0, none⟩) l.length c4
 g11 : gt 209 e 11 = .int .i64 t
 g12 : gt 209 e 12 = .pointer (some ⟨i12, 0, none⟩)
 g13 : gt 209 e 13 = .slice (some ⟨b13, 0, none⟩) ms.length c13
 tt : 1 ≤ t ∧ t ≤ 2
 gn : gs ≠ []
section
variable {i8 i12 i16 b1 c1 b2 c2 b4 c4 b9 c9 b10 c10 b13 c13 d1 e1 d2 e2 : Nat} {ps qs : List Pk} {gs : List Gd} {lots t t' : Int} {l ms : List Int} {σ : List Nat} {e e' : VT}
theorem ND.nz (I : ND H i8 i12 b1 c1 b2 c2 b4 c4 b9 c9 b10 c10 b13 c13 ps qs gs lots l ms σ t e) (f : Fr H H') (k : Keep 209 [8, 10, 12, 13] e e') (g11 : gt 209 e' 11 = .int .i64 t') (tt : 1 ≤ t' ∧ t' ≤ 2) (g16 : gt 209 e' 16 = .pointer (some ⟨i16, 0, none⟩)) (hi : i16 < H'.size)
  (dr : StR H' (some ⟨d1, 0, none⟩) (some ⟨d2, 0, none⟩) ps (dearG t' gs) lots) (b16 : H'.get i16 = .rw [.slice (some ⟨d1, 0, none⟩) ps.length e1, .slice (some ⟨d2, 0, none⟩) (dearG t' gs).length e2, .int .i64 lots] 25 false []) :
  NZ H' i8 i12 i16 b1 c1 b2 c2 b4 c4 b9 c9 b10 c10 b13 c13 d1 e1 d2 e2 ps qs gs lots l ms σ t' e' :=
 have fs := f.size
 ⟨I.lt.fr f, I.lo.fr f, dr, I.mv, I.ml, by have := I.z8; omega, by have := I.z12; omega, hi, (f.same _ I.z8).trans I.b8, (f.same _ I.z12).trans I.b12, b16, (k 8 (by decide)).trans I.g8, (k 10 (by decide)).trans I.g10, g11, (k 12 (by decide)).trans I.g12, (k 13 (by decide)).trans I.g13, g16, tt⟩
structure MxG (t : Int) (gs hs : List Gd) (k : Nat) : Prop where
 len : hs.length = gs.length
 old : ∀ j, k ≤ j → hs[j]? = gs[j]?
 new : ∀ j g, j < k → gs[j]? = some g → hs[j]? = some ⟨g.fo, if t * g.pr < 100 then t * g.pr else 100⟩
theorem MxG.next {hs : List Gd} {k : Nat} {g : Gd} (h : MxG t gs hs k) (hg : gs[k]? = some g) : MxG t gs (hs.set k ⟨g.fo, if t * g.pr < 100 then t * g.pr else 100⟩) (k + 1) := by
 have hl := (List.getElem?_eq_some_iff.1 hg).1
 have hn := h.len
 refine ⟨by rw [List.length_set]; exact hn, fun j hj => ?_, fun j x hj hx => ?_⟩
 ·rw [List.getElem?_set_ne (by omega)]
  exact h.old j (by omega)
 ·by_cases e : k = j
  ·subst e
   rw [hg] at hx
   cases hx
   rw [List.getElem?_set_self (by omega)]
  ·rw [List.getElem?_set_ne e]
   exact h.new j x (by omega) hx
theorem MxG.one {hs : List Gd} (h : MxG 1 gs hs gs.length) (hb : ∀ g ∈ gs, g.pr ≤ 100) : hs = dearG 1 gs := by
 rw [dear_one]
 apply List.ext_getElem?
 intro j
 by_cases hj : j < gs.length
 ·have := h.new j gs[j] hj (by simp [hj])
  rw [this]
  have hb' := hb gs[j] (List.getElem_mem hj)
  have e : (if 1 * gs[j].pr < 100 then 1 * gs[j].pr else 100) = gs[j].pr := by split <;> omega
  rw [e]
  simp [hj]
 ·rw [h.old j (by omega)]
theorem MxG.two {hs : List Gd} {g0 h0 : Gd} (h : MxG 2 gs hs gs.length) (ho : ordB gs = true) (hg : gs[0]? = some g0) (h1 : hs[0]? = some h0) (hn : h0.pr ≠ 100) : hs = dearG 2 gs ∧ 2 * g0.pr ≤ 100 := by
 have hl := (List.getElem?_eq_some_iff.1 hg).1
 have e0 := h.new 0 g0 hl hg
 rw [h1] at e0
 cases e0
 have hlt : 2 * g0.pr < 100 := by
  by_cases hh : 2 * g0.pr < 100
  ·exact hh
  ·exact absurd (if_neg hh) hn
 refine ⟨?_, by omega⟩
 apply List.ext_getElem?
 intro j
 by_cases hj : j < gs.length
 ·rw [h.new j gs[j] hj (by simp [hj])]
  have := ord_first ho hg gs[j] (List.getElem_mem hj)
  unfold dearG
  rw [List.getElem?_map, List.getElem?_eq_getElem hj, if_pos (by omega)]; rfl
 ·unfold dearG
  rw [h.old j (by omega), List.getElem?_map, List.getElem?_eq_none (by omega)]; rfl
set_option maxHeartbeats 8000000 in
set_option maxRecDepth 10000 in
theorem c11D (hL : L ≤ H.size) (I : ND H i8 i12 b1 c1 b2 c2 b4 c4 b9 c9 b10 c10 b13 c13 ps qs gs lots l ms σ t e) :
  W tabA Try.prog (N + 19400) none (sub [true, true, true, true, true, true, true] (bodyOf Try.f11)) L ⟨209, e, H, []⟩ (retK tabA L [.tmp 6] fun u _ => u = .bool true) := by
 have hst := I.lt.st.st
 obtain ⟨TL, hTL⟩ : ∃ c, sub [true, true, true, true, true, true, true, true, true, true] (bodyOf Try.f11) = c := ⟨_, rfl⟩
 have hTL0 := hTL
 simp only [Try.f11,bodyOf,sub_nil,sub_seq0,sub_seq1,sub_block,sub_loop,sub_cond0,sub_cond1] at hTL ⊢
 rw [hTL]
 clear hTL
 have pne : ps ≠ [] := by rintro rfl; have := hst.l1; simp at this
 have i8l := I.z8
 have hg4 := hst.g4
 have b8 := I.b8
 simp (disch:=first|(simp only [yk,seval];done)|omega|(simp only [yz]<;>omega)|fail) only [↓yp,yq0,yq1,yq2,yq3,yq4,yl,ys0,ys1,seval,fitB,newC,endD,endR,yrg,I.g8,b8]
 refine c14o I.lt.st.hs I.lt.st.hg (by have := hst.l4; omega) (by have := hst.g4; omega) pne I.gn hL (by omega) ?_
 intro d1 e1 d2 e2 H1 fr1 k1 k2 k3 x1 x2
 have f1 := fr1.size
 simp (disch:=first|(simp only [yk,seval];done)|omega|(simp only [yz]<;>omega)|fail) only [↓yp,yq0,yq1,yq2,yq3,yq4,yl,ys0,ys1,seval,fitB,newC,endD,endR,yrg,lenV_slice st_esS_23]
 obtain ⟨G, hG⟩ : ∃ G, (H1.alloc (.rw [.slice none 0 0, .slice none 0 0, .int .i64 0] 25 false [])).put H1.size (.rw [.slice (some ⟨d1, 0, none⟩) ps.length e1, .slice (some ⟨d2, 0, none⟩) gs.length e2, .int .i64 lots] 25 false []) = G := ⟨_, rfl⟩
 have fG : Fr H G := by rw [← hG]; exact fr1.trans (by repeat first|exact Fr.refl _|assumption|refine Fr.allocd ?_ _|refine Fr.put ?_ (by first|omega|(simp only [yz]<;>omega)) _)
 have sG : G.size = H1.size + 1 := by rw [← hG]; (first | omega | (simp only [yz] <;> omega))
 have bG : G.get H1.size = .rw [.slice (some ⟨d1, 0, none⟩) ps.length e1, .slice (some ⟨d2, 0, none⟩) gs.length e2, .int .i64 lots] 25 false [] := by rw [← hG]; exact get_put_same (by first|omega|(simp only [yz]<;>omega))
 have xG1 : G.get d1 = .rw (pkE.fl ps) 87 true [] := by rw [← hG, get_put_ne (by omega), get_alloc_lt (by omega)]; exact x1
 have xG2 : G.get d2 = .rw (gdE.fl gs) 77 true [] := by rw [← hG, get_put_ne (by omega), get_alloc_lt (by omega)]; exact x2
 rw [hG]
 refine W_while (n := 209) 19200 (fun q e' H' => ∃ (k : Nat) (hs : List Gd), q = gs.length - k ∧ k ≤ gs.length ∧ Keep 209 [8, 10, 11, 12, 13] e e' ∧ gt 209 e' 16 = .pointer (some ⟨H1.size, 0, none⟩) ∧ gt 209 e' 86 = .int .i64 (k : Nat) ∧ gt 209 e' 85 = .int .i64 (gs.length : Nat) ∧ MxG t gs hs k ∧ H'.size = G.size ∧ H'.get d2 = .rw (gdE.fl hs) 77 true [] ∧ ∀ j, j < G.size → j ≠ d2 → H'.get j = G.get j)
  ?_ 9 gs.length ⟨0, gs, by omega, by omega, by (with_reducible repeat first|refine Keep.put ?_ (by decide)|refine Keep.none ?_|assumption|exact Keep.refl _ _ _), ?_, ?_, ?_, ⟨rfl, fun _ _ => rfl, fun j g h => by omega⟩, rfl, xG2, fun _ _ _ => rfl⟩ (by have := hst.g4; omega) (by omega)
 rotate_left
 ·simp (disch:=first|(simp only [yk,seval];done)|omega|(simp only [yz]<;>omega)|fail) only [yg,seval]
 ·simp (disch:=first|(simp only [yk,seval];done)|omega|(simp only [yz]<;>omega)|fail) only [yg,seval] <;> rfl
 ·simp (disch:=first|(simp only [yk,seval];done)|omega|(simp only [yz]<;>omega)|fail) only [yg,seval]
 rintro M1 q e' H2 ⟨k, hs, rfl, hk, kp, g16, g86, g85, mx, s2, y2, old⟩
 have g11 := (kp 11 (by decide)).trans I.g11
 have b16 := (old _ (by omega) (by omega)).trans bG
 simp (disch:=first|(simp only [yk,seval];done)|omega|(simp only [yz]<;>omega)|fail) only [↓yp,yq0,yq1,yq2,yq3,yq4,yl,ys0,ys1,seval,fitB,newC,endD,endR,yrg,g86,g85]
 refine ⟨fun hT => ?_, fun hT => ?_⟩
 ·have hlt : k < gs.length := by have := of_decide_eq_true hT; omega
  have hw2 : w64 ((k : Int) + 1) = ((k + 1 : Nat) : Int) := by rw [w64_of (by omega)]; omega
  have hgk : gs[k]? = some gs[k] := by simp [hlt]
  have hhk := (mx.old k (Nat.le_refl _)).trans hgk
  obtain ⟨g, hg⟩ : ∃ g, gs[k] = g := ⟨_, rfl⟩
  rw [hg] at hgk hhk
  have hgb := I.lt.st.gd g (List.mem_of_getElem? hgk)
  simp (disch:=first|(simp only [yk,seval];done)|omega|(simp only [yz]<;>omega)|fail) only [↓yp,yq0,yq1,yq2,yq3,yq4,yl,ys0,ys1,seval,fitB,newC,endD,endR,yrg,g86]
  refine W_drawR (pl := []) [14] [(9, 1)] (planK_of rfl) (by kernel_rfl) (by kernel_rfl) (by kernel_rfl) (by first|omega|(simp only [yz]<;>omega)) ?_
  have hce : (gdE.fl hs)[k * 2 + 1]? = some (.int .i64 g.pr) := by
   have h0 : ((gdE.fl hs).drop (k * 2)).take 2 = gdE.f g := fl_at (E := gdE) hhk
   have h1 : (((gdE.fl hs).drop (k * 2)).take 2)[1]? = some (.int .i64 g.pr) := by rw [h0]; rfl
   rw [List.getElem?_take, if_pos (by omega), List.getElem?_drop] at h1
   exact h1
  have htt := I.tt
  have hm : 0 ≤ t * g.pr ∧ t * g.pr ≤ 2 * g.pr := ⟨Int.mul_nonneg (by omega) hgb.p.1, Int.mul_le_mul_of_nonneg_right htt.2 hgb.p.1⟩
  have hgp := hgb.p
  have hwm : w64 (t * g.pr) = t * g.pr := w64_of (by omega)
  obtain ⟨v, hv⟩ : ∃ v, (if t * g.pr < 100 then t * g.pr else 100) = v := ⟨_, rfl⟩
  have hset : newC (k * 2 + 1) [.int .i64 v] (gdE.fl hs) = gdE.fl (hs.set k ⟨g.fo, v⟩) := newC_pr hhk
  have hfl : (gdE.fl hs).length = gs.length * 2 := by rw [fl_length, mx.len]; rfl
  have hfit : decide (k * 2 + 1 + 1 ≤ gs.length * 2) = true := decide_eq_true (by omega)
  have hfit' : decide (k * 2 + 2 ≤ gs.length * 2) = true := decide_eq_true (by omega)
  obtain ⟨fl, hfle⟩ : ∃ fl, gdE.fl hs = fl := ⟨_, rfl⟩
  obtain ⟨fl', hfle'⟩ : ∃ fl, gdE.fl (hs.set k ⟨g.fo, v⟩) = fl := ⟨_, rfl⟩
  rw [hfle] at y2 hce hset hfl
  rw [hfle'] at hset
  have hset' : List.take (k * 2 + 1) fl ++ [Value.int .i64 v] ++ List.drop (k * 2 + 1 + 1) fl = fl' := hset
  simp (disch:=first|(simp only [yk,seval];done)|omega|(simp only [yz]<;>omega)|fail) only [↓yp,yq0,yq1,yq2,yq3,yq4,yl,ys0,ys1,seval,fitB,newC,endD,endR,yrg,g11,g16,b16,A_indexSlice st_esS_23,y2,hce,A_min,mm_min,hwm,hv,hfl,hfit,hfit',hset',g86,hw2]
  refine ⟨gs.length - (k + 1), by omega, k + 1, hs.set k ⟨g.fo, v⟩, rfl, by omega, Keep.trans kp (by (with_reducible repeat first|refine Keep.put ?_ (by decide)|refine Keep.none ?_|assumption|exact Keep.refl _ _ _)), ?_, ?_, ?_, by rw [← hv]; exact mx.next hgk, by (first | omega | (simp only [yz] <;> omega)), ?_, fun j h1 h2 => ?_⟩
  ·simp (disch:=first|(simp only [yk,seval];done)|omega|(simp only [yz]<;>omega)|fail) only [yg,seval,g16]
  ·simp (disch:=first|(simp only [yk,seval];done)|omega|(simp only [yz]<;>omega)|fail) only [yg,seval]
  ·simp (disch:=first|(simp only [yk,seval];done)|omega|(simp only [yz]<;>omega)|fail) only [yg,seval,g85]
  ·rw [hfle']
   exact get_put_same (by omega)
  ·rw [get_put_ne h2]
   exact old j h1 h2
 have hk' : k = gs.length := by have := of_decide_eq_false hT; omega
 subst hk'
 have hgl : 0 < gs.length := List.length_pos_iff.2 I.gn
 have hg0 : gs[0]? = some gs[0] := by simp [hgl]
 have hl := mx.len
 have hh0 : hs[0]? = some (hs[0]'(by omega)) := List.getElem?_eq_getElem _
 obtain ⟨g0, hg0e⟩ : ∃ g, gs[0] = g := ⟨_, rfl⟩
 obtain ⟨h0, hh0e⟩ : ∃ g, hs[0]'(by omega) = g := ⟨_, rfl⟩
 rw [hg0e] at hg0
 rw [hh0e] at hh0
 have hce : (gdE.fl hs)[0 + 1]? = some (.int .i64 h0.pr) := by
  have q0 : ((gdE.fl hs).drop (0 * 2)).take 2 = gdE.f h0 := fl_at (E := gdE) hh0
  have h1 : (((gdE.fl hs).drop (0 * 2)).take 2)[1]? = some (.int .i64 h0.pr) := by rw [q0]; rfl
  rw [List.getElem?_take, if_pos (by omega), List.getElem?_drop] at h1
  exact h1
 have fH : Fr H H2 := ⟨by have := fG.size; omega, fun j hj => by rw [old j (by have := fG.size; omega) (by omega)]; exact fG.same j hj⟩
 have xd1 : H2.get d1 = .rw (pkE.fl ps) 87 true [] := (old d1 (by omega) (by omega)).trans xG1
 have rd1 : Rw pkE H2 (some ⟨d1, 0, none⟩) ps := Rw.of (r := []) (by omega) (by rw [xd1]; rfl) (by rw [List.append_nil])
 have rd2 : Rw gdE H2 (some ⟨d2, 0, none⟩) hs := Rw.of (r := []) (by omega) (by rw [y2]; rfl) (by rw [List.append_nil])
 have htt := I.tt
 have hpr : ∀ g ∈ gs, g.pr ≤ 100 := fun g hg => (I.lt.st.gd g hg).p.2
 have kp2 : Keep 209 [8, 10, 12, 13] e e' := fun j hj => kp j (by revert hj; simp; omega)
 cases ht : decide (1 < t)
 ·have ht1 : t = 1 := by have := of_decide_eq_false ht; omega
  subst ht1
  have hsd := mx.one hpr
  rw [hsd] at rd2
  have dr : StR H2 (some ⟨d1, 0, none⟩) (some ⟨d2, 0, none⟩) ps (dearG 1 gs) lots := ⟨rd1, rd2, by rw [dear_one]; exact I.lt.st.ok⟩
  rw [← hl, hsd] at b16
  simp (disch:=first|(simp only [yk,seval];done)|omega|(simp only [yz]<;>omega)|fail) only [↓yp,yq0,yq1,yq2,yq3,yq4,yl,ys0,ys1,seval,fitB,newC,endD,endR,yrg,g11,g16,ht]
  rw [← hTL0]
  refine c11Z (by have := fH.size; omega) (I.nz fH ?_ ?_ (by omega) ?_ (by omega) dr b16)
  ·exact Keep.trans kp2 (by (with_reducible repeat first|refine Keep.put ?_ (by decide)|refine Keep.none ?_|assumption|exact Keep.refl _ _ _))
  ·simp (disch:=first|(simp only [yk,seval];done)|omega|(simp only [yz]<;>omega)|fail) only [yg,seval,g11]
  ·simp (disch:=first|(simp only [yk,seval];done)|omega|(simp only [yz]<;>omega)|fail) only [yg,seval,g16]
 have ht2 : t = 2 := by have := of_decide_eq_true ht; omega
 subst ht2
 have hfit : decide (1 ≤ gs.length) = true := decide_eq_true (by omega)
 have hgl0 : decide ((0 : Int) < (gs.length : Int)) = true := decide_eq_true (by omega)
 obtain ⟨fl, hfle⟩ : ∃ fl, gdE.fl hs = fl := ⟨_, rfl⟩
 rw [hfle] at hce
 cases hh : decide (h0.pr = 100)
 ·obtain ⟨hsd, hp2⟩ := mx.two hst.od hg0 hh0 (of_decide_eq_false hh)
  have b16' := b16
  rw [← hl, hsd] at b16'
  have dr : StR H2 (some ⟨d1, 0, none⟩) (some ⟨d2, 0, none⟩) ps (dearG 2 gs) lots := ⟨rd1, by rw [← hsd]; exact rd2, (chk_dear (by omega) hg0 hp2 hst).chk⟩
  rw [hfle] at y2
  simp (disch:=first|(simp only [yk,seval];done)|omega|(simp only [yz]<;>omega)|fail) only [↓yp,yq0,yq1,yq2,yq3,yq4,yl,ys0,ys1,seval,fitB,newC,endD,endR,yrg,g11,g16,ht,b16,A_indexSlice st_esS_23,y2,hce,hh,hgl0]
  rw [← hTL0]
  refine c11Z (by have := fH.size; omega) (I.nz fH ?_ ?_ (by omega) ?_ (by omega) dr b16')
  ·exact Keep.trans kp2 (by (with_reducible repeat first|refine Keep.put ?_ (by decide)|refine Keep.none ?_|assumption|exact Keep.refl _ _ _))
  ·simp (disch:=first|(simp only [yk,seval];done)|omega|(simp only [yz]<;>omega)|fail) only [yg,seval,g11]
  ·simp (disch:=first|(simp only [yk,seval];done)|omega|(simp only [yz]<;>omega)|fail) only [yg,seval,g16]
 ·rw [hfle] at y2
  have g8 := (kp 8 (by decide)).trans I.g8
  have b8' := (fH.same _ i8l).trans b8
  simp (disch:=first|(simp only [yk,seval];done)|omega|(simp only [yz]<;>omega)|fail) only [↓yp,yq0,yq1,yq2,yq3,yq4,yl,ys0,ys1,seval,fitB,newC,endD,endR,yrg,g8,b8',g11,g16,ht,b16,A_indexSlice st_esS_23,y2,hce,hh,hgl0]
  refine c14o (I.lt.fr fH).st.hs (I.lt.fr fH).st.hg (by have := hst.l4; omega) (by have := hst.g4; omega) pne I.gn (by have := fH.size; omega) (by omega) ?_
  intro d3 e3 d4 e4 H3 fr3 n1 n2 n3 z1 z2
  have f3 := fr3.size
  have b163 := (fr3.same _ (show H1.size < H2.size by omega)).trans b16
  simp (disch:=first|(simp only [yk,seval];done)|omega|(simp only [yz]<;>omega)|fail) only [↓yp,yq0,yq1,yq2,yq3,yq4,yl,ys0,ys1,seval,fitB,newC,endD,endR,yrg,g16,b163]
  rw [← hTL0]
  have f3H : Fr H (H3.put H1.size (.rw [.slice (some ⟨d3, 0, none⟩) ps.length e3, .slice (some ⟨d4, 0, none⟩) gs.length e4, .int .i64 lots] 25 false [])) := Fr.put (fH.trans fr3) (by omega) _
  have dr : StR (H3.put H1.size (.rw [.slice (some ⟨d3, 0, none⟩) ps.length e3, .slice (some ⟨d4, 0, none⟩) gs.length e4, .int .i64 lots] 25 false [])) (some ⟨d3, 0, none⟩) (some ⟨d4, 0, none⟩) ps (dearG 1 gs) lots := by
   rw [dear_one]
   refine ⟨Rw.of (r := []) (c := pkE.fl ps) (by first|omega|(simp only [yz]<;>omega)) ?_ (by rw [List.append_nil]), Rw.of (r := []) (c := gdE.fl gs) (by first|omega|(simp only [yz]<;>omega)) ?_ (by rw [List.append_nil]), I.lt.st.ok⟩
   ·rw [get_put_ne (by omega), z1]; rfl
   ·rw [get_put_ne (by omega), z2]; rfl
  refine c11Z (i16 := H1.size) (by have := f3H.size; omega) (I.nz f3H ?_ ?_ (by omega) ?_ (by first|omega|(simp only [yz]<;>omega)) dr (by rw [dear_one]; exact get_put_same (by omega)))
  ·exact Keep.trans kp2 (by (with_reducible repeat first|refine Keep.put ?_ (by decide)|refine Keep.none ?_|assumption|exact Keep.refl _ _ _))
  ·simp (disch:=first|(simp only [yk,seval];done)|omega|(simp only [yz]<;>omega)|fail) only [yg,seval]
  ·simp (disch:=first|(simp only [yk,seval];done)|omega|(simp only [yz]<;>omega)|fail) only [yg,seval,g16]
end
end Go.Am.K
namespace Go.Am.K
open Go.Proofs
variable {T : Tab} {P : Program} {N L : Nat} {H H' H'' : AHeap} {Q : Bool → Value → AHeap → Prop}
variable {k cap : Nat} {a : Option Addr} {bs : List Int}
set_option maxHeartbeats 4000000 in
set_option maxRecDepth 10000 in
theorem c54 (h : Chu H k a bs cap) (hL : L ≤ k) {n : Nat} (h1 : 1 ≤ n) (h4 : n ≤ 8) :
  resK (acall tabA (aexec tabA Try.prog (N + 2000)) 54 [.pointer (some ⟨k, 0, none⟩), .int .i64 (n : Int)] H) L fun b v H' => b = false ∧ ShR k cap a bs n H v H' := by
 have hlt := h.lt
 refine call_keep tabA_fr (R := ShR k cap a bs n H) (k := 39) (rs := [.tmp 4]) rfl fn_54 rfl rfl rfl (by omega) ?_ (fun v H' h => ⟨rfl, h⟩) ?_
 rotate_left
 ·rintro v H' ⟨xs, b, c, rfl, -⟩ hgr _
  cases hgr
 have hmx : (if (0 : Int) > (n : Int) then (0 : Int) else (n : Int)) = (n : Int) := if_neg (by omega)
 simp (disch:=first|(simp only [yk,seval];done)|omega|(simp only [yz]<;>omega)|fail) only [↓yp,yq0,yq1,yq2,yq3,yq4,yl,ys0,ys1,seval,fitB,newC,endD,endR,yrg,A_max,mm_max,hmx]
 refine W_while (n := 39) 400 (fun q e' H' => ∃ (i : Nat) (v : Value) (S : Nat → Prop) (xs : List Int), q = n - i ∧ i ≤ n ∧ gt 39 e' 11 = .int .i64 (i : Nat) ∧ gt 39 e' 10 = .int .i64 (n : Nat) ∧ gt 39 e' 0 = .pointer (some ⟨k, 0, none⟩) ∧ gt 39 e' 5 = v ∧ Chu H' k a bs cap ∧ FrX k H H' ∧ Gw H' k S v i (intE.fl xs) 3 1 ∧ xs.length = i ∧ xs.Perm (upTo i) ∧ ∀ j, S j → H.size ≤ j)
  ?_ 9 n ⟨0, .slice none 0 0, fun _ => False, [], by omega, by omega, ?_, ?_, ?_, ?_, h, FrX.refl _ _, Gw.none, rfl, List.Perm.refl _, fun j h => h.elim⟩ (by omega) (by omega)
 rotate_left
 ·simp (disch:=first|(simp only [yk,seval];done)|omega|(simp only [yz]<;>omega)|fail) only [yg,seval] <;> rfl
 ·simp (disch:=first|(simp only [yk,seval];done)|omega|(simp only [yz]<;>omega)|fail) only [yg,seval]
 ·simp (disch:=first|(simp only [yk,seval];done)|omega|(simp only [yz]<;>omega)|fail) only [yg,seval]
 ·simp (disch:=first|(simp only [yk,seval];done)|omega|(simp only [yz]<;>omega)|fail) only [yg,seval]
 rintro M1 q e H1 ⟨i, v, S, xs, rfl, hi, g11, g10, g0, g5, hc1, fx1, gw, xlen, xp, hS⟩
 have f1 := fx1.size
 simp (disch:=first|(simp only [yk,seval];done)|omega|(simp only [yz]<;>omega)|fail) only [↓yp,yq0,yq1,yq2,yq3,yq4,yl,ys0,ys1,seval,fitB,newC,endD,endR,yrg,g11,g10]
 refine ⟨fun hT => ?_, fun hT => ?_⟩
 rotate_left
 ·have hie : i = n := by have := of_decide_eq_false hT; omega
  subst hie
  obtain ⟨b, al, rfl, s1, k1, -⟩ := gw.cons (by omega)
  simp (disch:=first|(simp only [yk,seval];done)|omega|(simp only [yz]<;>omega)|fail) only [↓yp,yq0,yq1,yq2,yq3,yq4,yl,ys0,ys1,seval,fitB,newC,endD,endR,yrg,g5]
  exact ⟨xs, b, _, rfl, hS _ s1, xp, xlen, Rw.of (r := []) (gw.own _ s1).2 (by rw [k1]; rfl) (by rw [List.append_nil]), hc1, fx1⟩
 have hlt2 : i < n := by have := of_decide_eq_true hT; omega
 have hw2 : w64 ((i : Int) + 1) = ((i + 1 : Nat) : Int) := by rw [w64_of (by omega)]; omega
 simp (disch:=first|(simp only [yk,seval];done)|omega|(simp only [yz]<;>omega)|fail) only [↓yp,yq0,yq1,yq2,yq3,yq4,yl,ys0,ys1,seval,fitB,newC,endD,endR,yrg,g5,g11,A_buildSlice st_brS_49_1]
 refine gw_append (i := i) (cs := intE.fl xs) (news := [.int .i64 (i : Int)]) st_apS_49 (gw.fr (by repeat first|exact Fr.refl _|assumption|refine Fr.allocd ?_ _|refine Fr.put ?_ (by first|omega|(simp only [yz]<;>omega)) _)) (by first|omega|(simp only [yz]<;>omega)) (by rw [fl_length, xlen]; rfl) (by unfold srcCells; simp (disch:=first|(simp only [yk,seval];done)|omega|(simp only [yz]<;>omega)|fail) only [yg,seval] <;> rfl) (by omega) (by omega) rfl (by omega) ?_
 intro a2 c2 H2 hs2 fs2 gw2
 simp only [size_alloc] at hs2 fs2 gw2
 have hk1 := hc1.lt
 have old2 : ∀ q, q < H1.size → ¬ S q → H2.get q = H1.get q := fun q h1 h2 => by rw [fs2 q (by omega) h2, get_alloc_lt h1]
 have hc2 : Chu H2 k a bs cap := chu_low h hc1 (by omega) fun j hj => old2 j (by omega) fun h => by have := hS j h; omega
 obtain ⟨b, al, e2, sb, kb, kal⟩ := gw2.cons (by omega)
 cases e2
 simp (disch:=first|(simp only [yk,seval];done)|omega|(simp only [yz]<;>omega)|fail) only [↓yp,yq0,yq1,yq2,yq3,yq4,yl,ys0,ys1,seval,fitB,newC,endD,endR,yrg,hw2,g0,g11]
 refine c42 hc2 hL (by omega) (by omega) ?_
 intro f j H3 hf hp hc3 fx3 hz3
 obtain ⟨jj, rfl⟩ : ∃ jj : Nat, j = (jj : Int) := ⟨j.toNat, by have := hp.1; omega⟩
 have hji : jj ≤ i := by rcases hp.2 with h | h <;> omega
 have hbk := (gw2.own b sb).1
 have kb3 := (fx3.same b (gw2.own b sb).2 (by omega)).trans kb
 have hfl : intE.fl xs ++ [.int .i64 (i : Int)] = intE.fl (xs ++ [(i : Int)]) := by rw [fl_app]; rfl
 rw [hfl] at kb3
 obtain ⟨ys, hys⟩ : ∃ ys, xs ++ [(i : Int)] = ys := ⟨_, rfl⟩
 rw [hys] at kb3
 have yslen : ys.length = i + 1 := by rw [← hys, List.length_append, xlen]; rfl
 have ysi : ys[i]'(by omega) = (i : Int) := by subst hys; simp [← xlen]
 have yspm : ys.Perm (upTo (i + 1)) := by rw [← hys]; exact xp.append_right _
 obtain ⟨y, ysj⟩ : ∃ y, ys[jj]'(by omega) = y := ⟨_, rfl⟩
 have hsw : ((ys.set i (ys[jj]'(by omega))).set jj (ys[i]'(by omega))).Perm ys := List.set_set_perm (by omega) (by omega)
 rw [ysi, ysj] at hsw
 have ci : (intE.fl ys)[i]? = some (.int .i64 (i : Int)) := by
  have := cell_of (k := i * 1) (fl_at (E := intE) (show ys[i]? = some (i : Int) by rw [List.getElem?_eq_getElem (by omega), ysi]))
  rwa [Nat.mul_one] at this
 have cj : (intE.fl ys)[jj]? = some (.int .i64 y) := by
  have := cell_of (k := jj * 1) (fl_at (E := intE) (show ys[jj]? = some y by rw [List.getElem?_eq_getElem (by omega), ysj]))
  rwa [Nat.mul_one] at this
 have ln : ∀ zs : List Int, zs.length = i + 1 → (intE.fl zs).length = i + 1 := fun zs hz => by rw [fl_length, hz]; show (i + 1) * 1 = i + 1; omega
 have hN1 : newC i [.int .i64 y] (intE.fl ys) = intE.fl (ys.set i y) := by
  have := newC_fl (E := intE) (l := ys) (k := i) (s := y) (by omega)
  rwa [show i * intE.z = i from Nat.mul_one i] at this
 have hN2 : newC jj [.int .i64 (i : Int)] (intE.fl (ys.set i y)) = intE.fl ((ys.set i y).set jj (i : Int)) := by
  have := newC_fl (E := intE) (l := ys.set i y) (k := jj) (s := (i : Int)) (by rw [List.length_set]; omega)
  rwa [show jj * intE.z = jj from Nat.mul_one jj] at this
 have cl := ln ys yslen
 have cl2 := ln (ys.set i y) (by rw [List.length_set, yslen])
 obtain ⟨cs, hcs⟩ : ∃ cs, intE.fl ys = cs := ⟨_, rfl⟩
 obtain ⟨cs2, hcs2⟩ : ∃ cs, intE.fl (ys.set i y) = cs := ⟨_, rfl⟩
 obtain ⟨cs3, hcs3⟩ : ∃ cs, intE.fl ((ys.set i y).set jj (i : Int)) = cs := ⟨_, rfl⟩
 rw [hcs] at kb3 ci cj cl hN1
 rw [hcs2] at cl2 hN1 hN2
 rw [hcs3] at hN2
 have hfit1 : decide (i + 1 ≤ i + 1) = true := by simp
 have hfit2 : decide (jj + 1 ≤ i + 1) = true := by simp; omega
 have hfit3 : decide (jj ≤ i) = true := decide_eq_true (by omega)
 have hN1' : List.take i cs ++ [Value.int .i64 y] ++ List.drop (i + 1) cs = cs2 := hN1
 have hN2' : List.take jj cs2 ++ [Value.int .i64 (i : Int)] ++ List.drop (jj + 1) cs2 = cs3 := hN2
 have hN2'' : List.take jj cs2 ++ [Value.int .i64 (i : Int)] ++ List.drop (jj + [Value.int .i64 (i : Int)].length) cs2 = cs3 := hN2
 have hmn : minAl b [] = b := rfl
 have hbig : ∀ q, (S q ∨ q = H1.size + 1) → H.size ≤ q := fun q hq => by
  rcases hq with hq | rfl
  ·exact hS q hq
  ·omega
 have hbH : H.size ≤ b := hbig b sb
 have hbs : b < H3.size := by have := (gw2.own b sb).2; omega
 have hml : L ≤ minAl b al := le_minAl (by omega) (fun j hj => by have := hbig j (kal j hj); omega)
 simp (disch:=first|(simp only [yk,seval];done)|omega|(simp only [yz]<;>omega)|fail) only [↓yp,yq0,yq1,yq2,yq3,yq4,yl,ys0,ys1,seval,fitB,newC,endD,endR,yrg,g11,A_indexSlice st_esS_49,kb3,ci,cj,cl,cl2,wrB_al,hfit1,hfit2,hfit3,hw2,Nat.mul_one,Nat.zero_add,hN1',hN2',hN2'',hmn,one_len,Int.toNat_natCast]
 have hfS : ∀ (X Y : ABlk) (j : Nat), j < H.size → ((((H3.kill al).put b X).kill []).put b Y).get j = H3.get j := fun X Y j hj => by
  rw [get_put_ne (by omega), get_kill (by simp), get_put_ne (by omega), get_kill (fun hm => by have := hbig j (kal j hm); omega)]
 have hfZ : ∀ X Y : ABlk, ((((H3.kill al).put b X).kill []).put b Y).size = H3.size := fun X Y => by simp only [size_put,size_kill]
 refine ⟨n - (i + 1), by omega, i + 1, .slice (some ⟨b, 0, none⟩) (i + 1) (OPEN + 1), fun q => S q ∨ q = H1.size + 1, (ys.set i y).set jj (i : Int), rfl, by omega, ?_, ?_, ?_, ?_, chu_low h hc3 (by rw [hfZ]; omega) (fun j hj => hfS _ _ j hj), ⟨by rw [hfZ]; omega, fun j h1 h2 => ?_⟩, ⟨fun h => by omega, fun _ => ⟨b, [], rfl, sb, ?_, fun j hj => by simp at hj⟩, fun q hq => ?_⟩, by rw [List.length_set, List.length_set, yslen], hsw.trans yspm, fun q hq => hbig q hq⟩
 ·simp (disch:=first|(simp only [yk,seval];done)|omega|(simp only [yz]<;>omega)|fail) only [yg,seval]
 ·simp (disch:=first|(simp only [yk,seval];done)|omega|(simp only [yz]<;>omega)|fail) only [yg,seval,g10]
 ·simp (disch:=first|(simp only [yk,seval];done)|omega|(simp only [yz]<;>omega)|fail) only [yg,seval,g0]
 ·simp (disch:=first|(simp only [yk,seval];done)|omega|(simp only [yz]<;>omega)|fail) only [yg,seval]
 ·rw [hfS _ _ j h1, fx3.same j (by omega) h2, old2 j (by omega) fun h => by have := hS j h; omega]
  exact fx1.same j h1 h2
 ·rw [get_put_same (by simp only [size_put,size_kill]; omega), hcs3]
 ·have := gw2.own q hq
  rw [hfZ]; omega
end Go.Am.K
