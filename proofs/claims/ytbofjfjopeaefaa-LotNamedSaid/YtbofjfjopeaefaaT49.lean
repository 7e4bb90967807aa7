import Derived.Test.YtbofjfjopeaefaaT48
import Derived.Test.YtbofjfjopeaefaaT40
set_option linter.unusedSimpArgs false
set_option linter.unusedVariables false
namespace Go.Am.K
open Go.Proofs
variable {T : Tab} {P : Program} {N L : Nat} {H H' H'' : AHeap} {Q : Bool → Value → AHeap → Prop}
theorem upTo_nat : ∀ n : Nat, (upTo n).map Int.toNat = List.range n
 | 0 => rfl
 | n + 1 => by
  unfold upTo
  rw [List.map_append, upTo_nat n, List.range_succ]; rfl
theorem upTo_in : ∀ {n : Nat} {x : Int}, x ∈ upTo n → 0 ≤ x ∧ x < n
 | 0, x, h => by simp [upTo] at h
 | n + 1, x, h => by
  unfold upTo at h
  rcases List.mem_append.1 h with h | h
  ·have := upTo_in h; omega
  ·simp only [List.mem_singleton] at h; omega
theorem upTo_nodup : ∀ {n : Nat}, (upTo n).Nodup
 | 0 => List.nodup_nil
 | n + 1 => by
  unfold upTo
  rw [List.nodup_append]
  refine ⟨upTo_nodup, by simp, fun a ha b hb => ?_⟩
  have := upTo_in ha
  simp only [List.mem_singleton] at hb
  omega
theorem c54M {k n : Nat} {a : Option Addr} {bs : List Int} {cap : Nat} (h : Chu H k a bs cap) (hL : L ≤ k) (h1 : 1 ≤ n) (h4 : n ≤ 8) {M : Nat} (hM : 2000 ≤ M)
  (hq : ∀ xs b c H', H.size ≤ b → xs.Perm (upTo n) → xs.length = n → Rw intE H' (some ⟨b, 0, none⟩) xs → FrX k H H' → Q false (.slice (some ⟨b, 0, none⟩) n c) H') :
  resK (acall tabA (aexec tabA Try.prog M) 54 [.pointer (some ⟨k, 0, none⟩), .int .i64 (n : Int)] H) L Q := by
 obtain ⟨N, rfl⟩ : ∃ N, M = N + 2000 := ⟨M - 2000, by omega⟩
 refine resK_mono (c54 h hL h1 h4) ?_
 rintro b _ H2 ⟨rfl, xs, xb, xc, rfl, h1, h2, h3, h4, -, h5⟩
 exact hq _ _ _ _ h1 h2 h3 h4 h5
structure NA (H' : AHeap) (z i8 i12 b1 c1 b2 c2 b4 c4 b9 c9 b10 c10 b13 c13 : Nat) (ps qs : List Pk) (gs : List Gd) (lots : Int) (l ms : List Int) (t : Int) (e : VT) : Prop where
 lt : LtR H' (some ⟨b1, 0, none⟩) (some ⟨b2, 0, none⟩) (some ⟨b4, 0, none⟩) ps gs lots l
 o' : Rw gdE H' (some ⟨b10, 0, none⟩) gs
 bo : H'.get b9 = .rw (pkE.fl qs) 87 true []
 bm : H'.get b13 = .rw (intE.fl ms) 3 true []
 ql : qs.length = ps.length
 ml : ms.length = ps.length
 zs : b1 < z ∧ b2 < z ∧ b4 < z ∧ i8 < z ∧ z ≤ b9 ∧ b9 < b10 ∧ b10 < b13 ∧ b13 < i12 ∧ i12 < H'.size
 b8 : H'.get i8 = .rw [.slice (some ⟨b1, 0, none⟩) ps.length c1, .slice (some ⟨b2, 0, none⟩) gs.length c2, .int .i64 lots] 25 false []
 b12 : H'.get i12 = .rw [.slice (some ⟨b9, 0, none⟩) ps.length c9, .slice (some ⟨b10, 0, none⟩) gs.length c10, .int .i64 lots] 25 false []
 g8 : gt 209 e 8 = .pointer (some ⟨i8, 0, none⟩)
 g10 : gt 209 e 10 = .slice (some ⟨b4, 0, none⟩) l.length c4
 g11 : gt 209 e 11 = .int .i64 t
 g12 : gt 209 e 12 = .pointer (some ⟨i12, 0, none⟩)
 g13 : gt 209 e 13 = .slice (some ⟨b13, 0, none⟩) l.length c13
 tt : 1 ≤ t ∧ t ≤ 2
 gn : gs ≠ []
section
variable {z i8 i12 b1 c1 b2 c2 b4 c4 b9 c9 b10 c10 b13 c13 cap2 : Nat} {a2 : Option Addr} {bs2 : List Int} {ps qs : List Pk} {gs : List Gd} {lots t : Int} {l ms : List Int} {e e' : VT}
set_option maxHeartbeats 8000000 in
set_option maxRecDepth 10000 in
theorem c11A (hL : L ≤ H.size) (hz : L ≤ z) (I : NA H z i8 i12 b1 c1 b2 c2 b4 c4 b9 c9 b10 c10 b13 c13 ps qs gs lots l ms t e) (hb2 : Bts H a2 bs2) (g1 : gt 209 e 1 = .slice a2 bs2.length cap2) :
  W tabA Try.prog (N + 19800) none (sub [true, true, true, true, true, true] (bodyOf Try.f11)) L ⟨209, e, H, []⟩ (retK tabA L [.tmp 6] fun u _ => u = .bool true) := by
 have hst := I.lt.st.st
 have hp4 := hst.l4
 have hp1 := hst.l1
 have zs := I.zs
 obtain ⟨TL, hTL⟩ : ∃ c, sub [true, true, true, true, true, true, true] (bodyOf Try.f11) = c := ⟨_, rfl⟩
 have hTL0 := hTL
 simp only [Try.f11,bodyOf,sub_nil,sub_seq0,sub_seq1,sub_block,sub_loop,sub_cond0,sub_cond1] at hTL ⊢
 rw [hTL]
 clear hTL
 have b8 := I.b8
 have g8 := I.g8
 simp (disch:=first|(simp only [yk,seval];done)|omega|(simp only [yz]<;>omega)|fail) only [↓yp,yq0,yq1,yq2,yq3,yq4,yl,ys0,ys1,seval,fitB,newC,endD,endR,yrg,g1,g8,b8]
 refine W_draw [1, 5] rfl (by kernel_rfl) (by kernel_rfl) (by first|omega|(simp only [yz]<;>omega)) ?_
 simp (disch:=first|(simp only [yk,seval];done)|omega|(simp only [yz]<;>omega)|fail) only [↓yp,yq0,yq1,yq2,yq3,yq4,yl,ys0,ys1,seval,fitB,newC,endD,endR,yrg,g1,g8,b8]
 refine c34 hb2 (by omega) (by omega) ?_
 intro H6 fr6 hs6 hc6
 have b86 := (fr6.same _ (by omega)).trans b8
 simp (disch:=first|(simp only [yk,seval];done)|omega|(simp only [yz]<;>omega)|fail) only [↓yp,yq0,yq1,yq2,yq3,yq4,yl,ys0,ys1,seval,fitB,newC,endD,endR,yrg,g1,g8,b86,lenV_slice st_esS_22]
 refine c54M hc6 (by omega) hp1 (by omega) (by omega) ?_
 intro xs xb xc H7 hxb xp xl xr fx
 have s7 := fx.size
 have b87 := (fx.same _ (by omega) (by omega)).trans b86
 simp (disch:=first|(simp only [yk,seval];done)|omega|(simp only [yz]<;>omega)|fail) only [↓yp,yq0,yq1,yq2,yq3,yq4,yl,ys0,ys1,seval,fitB,newC,endD,endR,yrg,g1,g8,b8,b86,b87,lenV_slice st_esS_49,lenV_slice st_esS_22]
 have f7 : Fr H H7 := ⟨by have := fr6.size; omega, fun j hj => by rw [fx.same j (by omega) (by omega)]; exact fr6.same j hj⟩
 have hln : l.length = ps.length := I.lt.lo.len
 have lt7 := I.lt.fr f7
 have hxn : xs ≠ [] := by rintro rfl; simp at xl; omega
 have hxl : xb < H7.size := by
  obtain ⟨b, o, c, e1, l1, -⟩ := xr.get hxn
  cases e1; exact l1
 have bo7 := (f7.same _ (by omega)).trans I.bo
 have bm7 := (f7.same _ (by omega)).trans I.bm
 have b127 := (f7.same _ (by omega)).trans I.b12
 have s67 : H.size < H7.size := by omega
 refine W_while (n := 209) 19500 (fun q e' H' => ∃ (i : Nat) (qs' : List Pk) (ms' : List Int), q = ps.length - i ∧ i ≤ ps.length ∧ Keep 209 [8, 10, 11, 12, 13] e e' ∧ gt 209 e' 57 = .slice (some ⟨xb, 0, none⟩) ps.length xc ∧ gt 209 e' 58 = .int .i64 (ps.length : Nat) ∧ gt 209 e' 59 = .int .i64 (i : Nat) ∧ qs'.length = ps.length ∧ ms'.length = ps.length ∧ H'.size = H7.size ∧ H'.get b9 = .rw (pkE.fl qs') 87 true [] ∧ H'.get b13 = .rw (intE.fl ms') 3 true [] ∧ (∀ j, j < H7.size → j ≠ b9 → j ≠ b13 → H'.get j = H7.get j) ∧ ∀ (j v : Nat), j < i → xs[j]? = some (v : Int) → qs'[v]? = ps[j]? ∧ ms'[v]? = l[j]?)
  ?_ 9 ps.length ⟨0, qs, ms, by omega, by omega, by (with_reducible repeat first|refine Keep.put ?_ (by decide)|refine Keep.none ?_|assumption|exact Keep.refl _ _ _), ?_, ?_, ?_, I.ql, I.ml, rfl, bo7, bm7, fun _ _ _ _ => rfl, fun j v h => by omega⟩ (by omega) (by omega)
 rotate_left
 ·simp (disch:=first|(simp only [yk,seval];done)|omega|(simp only [yz]<;>omega)|fail) only [yg,seval]
 ·simp (disch:=first|(simp only [yk,seval];done)|omega|(simp only [yz]<;>omega)|fail) only [yg,seval]
 ·simp (disch:=first|(simp only [yk,seval];done)|omega|(simp only [yz]<;>omega)|fail) only [yg,seval] <;> rfl
 rintro M1 q e' H2 ⟨i, qs', ms', rfl, hi, kp, g57, g58, g59, ql, ml, s2, bo, bm, old, cat⟩
 have g11 := (kp 11 (by decide)).trans I.g11
 have g12 := (kp 12 (by decide)).trans I.g12
 have g13 := (kp 13 (by decide)).trans I.g13
 have g10 := (kp 10 (by decide)).trans I.g10
 have g8 := (kp 8 (by decide)).trans I.g8
 have b82 := (old _ (by omega) (by omega) (by omega)).trans b87
 have b122 := (old _ (by omega) (by omega) (by omega)).trans b127
 have xr2 : Rw intE H2 (some ⟨xb, 0, none⟩) xs := rw_same xr (by omega) (old _ (by omega) (by omega) (by omega))
 have ps2 : Rw pkE H2 (some ⟨b1, 0, none⟩) ps := rw_same lt7.st.hs (by omega) (old _ (by omega) (by omega) (by omega))
 have gs2 : Rw gdE H2 (some ⟨b2, 0, none⟩) gs := rw_same lt7.st.hg (by omega) (old _ (by omega) (by omega) (by omega))
 have l2 : Rw intE H2 (some ⟨b4, 0, none⟩) l := rw_same lt7.rl (by omega) (old _ (by omega) (by omega) (by omega))
 have og2 : Rw gdE H2 (some ⟨b10, 0, none⟩) gs := rw_same (I.o'.fr f7) (by omega) (old _ (by omega) (by omega) (by omega))
 have lt2 : LtR H2 (some ⟨b1, 0, none⟩) (some ⟨b2, 0, none⟩) (some ⟨b4, 0, none⟩) ps gs lots l := ⟨⟨ps2, gs2, lt7.st.ok⟩, l2, lt7.lo⟩
 simp (disch:=first|(simp only [yk,seval];done)|omega|(simp only [yz]<;>omega)|fail) only [↓yp,yq0,yq1,yq2,yq3,yq4,yl,ys0,ys1,seval,fitB,newC,endD,endR,yrg,g59,g58]
 refine ⟨fun hT => ?_, fun hT => ?_⟩
 ·have hlt : i < ps.length := by have := of_decide_eq_true hT; omega
  have hw2 : w64 ((i : Int) + 1) = ((i + 1 : Nat) : Int) := by rw [w64_of (by omega)]; omega
  obtain ⟨vn, hvn, hvl⟩ : ∃ vn : Nat, xs[i]? = some (vn : Int) ∧ vn < ps.length := by
   have hxi : xs[i]? = some (xs[i]'(by omega)) := List.getElem?_eq_getElem _
   obtain ⟨w, hw⟩ : ∃ w, xs[i]'(by omega) = w := ⟨_, rfl⟩
   rw [hw] at hxi
   have hm : w ∈ upTo ps.length := xp.mem_iff.1 (List.mem_of_getElem? hxi)
   obtain ⟨h1, h2⟩ := upTo_in hm
   exact ⟨w.toNat, by rw [hxi]; congr 1; omega, by omega⟩
  obtain ⟨p, hp⟩ : ∃ p, ps[i]? = some p := ⟨ps[i], by simp [hlt]⟩
  obtain ⟨x, hx⟩ : ∃ x, l[i]? = some x := ⟨l[i]'(by omega), List.getElem?_eq_getElem _⟩
  obtain ⟨b', o', cx, ex, hbx, hcx, hqx⟩ := xr2.at_ hvn
  cases ex
  have hx1 : cx[i]? = some (.int .i64 (vn : Int)) := by
   have := cell_of (k := 0 + i * 1) hqx
   rwa [Nat.mul_one, Nat.zero_add] at this
  obtain ⟨b', o', cp, ex, hbp, hcp, hqp⟩ := ps2.at_ hp
  cases ex
  have hp1 : part cp (i * 4) 5 = some (.agg ⟨[.int .i64 p.s, .int .i64 p.w, .int .i64 p.o, .int .i64 p.f]⟩) := by
   have := part_of hqp rfl
   rwa [show 0 + i * pkE.z = i * 4 from Nat.zero_add _] at this
  obtain ⟨b', o', cl, ex, hbl, hcl, hql⟩ := l2.at_ hx
  cases ex
  have hl1 : cl[i]? = some (.int .i64 x) := by
   have := cell_of (k := 0 + i * 1) hql
   rwa [Nat.mul_one, Nat.zero_add] at this
  have hset : newC (vn * 4) p.enc (pkE.fl qs') = pkE.fl (qs'.set vn p) := newC_fl (E := pkE) (by omega)
  have hfl : (pkE.fl qs').length = ps.length * 4 := by rw [fl_length, ql]; rfl
  have hfit : decide (vn * 4 + 4 ≤ ps.length * 4) = true := decide_eq_true (by omega)
  have hset2 : newC vn [.int .i64 x] (intE.fl ms') = intE.fl (ms'.set vn x) := by
   have := newC_fl (E := intE) (l := ms') (k := vn) (s := x) (by omega)
   rwa [show vn * intE.z = vn from Nat.mul_one vn] at this
  have hfl2 : (intE.fl ms').length = ps.length := by rw [fl_length, ml]; exact Nat.mul_one _
  have hfit2 : decide (vn + 1 ≤ ps.length) = true := decide_eq_true (by omega)
  obtain ⟨qf, hqf⟩ : ∃ f, pkE.fl qs' = f := ⟨_, rfl⟩
  obtain ⟨qf', hqf'⟩ : ∃ f, pkE.fl (qs'.set vn p) = f := ⟨_, rfl⟩
  obtain ⟨mf, hmf⟩ : ∃ f, intE.fl ms' = f := ⟨_, rfl⟩
  obtain ⟨mf', hmf'⟩ : ∃ f, intE.fl (ms'.set vn x) = f := ⟨_, rfl⟩
  rw [hqf] at bo hset hfl
  rw [hqf'] at hset
  rw [hmf] at bm hset2 hfl2
  rw [hmf'] at hset2
  simp only [Pk.enc] at hset
  have hsetA : List.take (vn * 4) qf ++ [.int .i64 p.s, .int .i64 p.w, .int .i64 p.o, .int .i64 p.f] ++ List.drop (vn * 4 + 4) qf = qf' := hset
  have hsetB : List.take vn mf ++ [.int .i64 x] ++ List.drop (vn + 1) mf = mf' := hset2
  simp (disch:=first|(simp only [yk,seval];done)|omega|(simp only [yz]<;>omega)|fail) only [↓yp,yq0,yq1,yq2,yq3,yq4,yl,ys0,ys1,seval,fitB,newC,endD,endR,yrg,g57,g59,A_indexSlice st_esS_49,hcx,hx1,Nat.mul_one,Nat.zero_add,xl]
  refine W_draw [15, 17] rfl (by kernel_rfl) (by kernel_rfl) (by first|omega|(simp only [yz]<;>omega)) ?_
  simp (disch:=first|(simp only [yk,seval];done)|omega|(simp only [yz]<;>omega)|fail) only [↓yp,yq0,yq1,yq2,yq3,yq4,yl,ys0,ys1,seval,fitB,newC,endD,endR,yrg,g8,g10,g12,g13,b82,b122,A_indexSlice st_esS_49,A_indexSlice st_esS_22,hcp,hp1,hcl,hl1,bo,bm,hfl,hfl2,hfit,hfit2,hsetA,hsetB,Nat.mul_one,Nat.zero_add,Int.toNat_natCast,g59,hw2]
  have nd := xp.nodup_iff.2 upTo_nodup
  refine ⟨ps.length - (i + 1), by omega, i + 1, qs'.set vn p, ms'.set vn x, rfl, by omega, Keep.trans kp (by (with_reducible repeat first|refine Keep.put ?_ (by decide)|refine Keep.none ?_|assumption|exact Keep.refl _ _ _)), ?_, ?_, ?_, by rw [List.length_set]; exact ql, by rw [List.length_set]; exact ml, by (first | omega | (simp only [yz] <;> omega)), ?_, ?_, fun j h1 h2 h3 => ?_, fun j v hj hv => ?_⟩
  ·simp (disch:=first|(simp only [yk,seval];done)|omega|(simp only [yz]<;>omega)|fail) only [yg,seval,g57]
  ·simp (disch:=first|(simp only [yk,seval];done)|omega|(simp only [yz]<;>omega)|fail) only [yg,seval,g58]
  ·simp (disch:=first|(simp only [yk,seval];done)|omega|(simp only [yz]<;>omega)|fail) only [yg,seval]
  ·rw [hqf', get_put_ne (by omega)]
   exact get_put_same (by omega)
  ·rw [hmf']
   exact get_put_same (by first|omega|(simp only [yz]<;>omega))
  ·rw [get_put_ne h3, get_put_ne h2]
   exact old j h1 h2 h3
  ·by_cases hji : j = i
   ·subst hji
    rw [hvn] at hv
    have : vn = v := by have := Option.some.inj hv; omega
    subst this
    rw [List.getElem?_set_self (by omega), List.getElem?_set_self (by omega)]
    exact ⟨hp.symm, hx.symm⟩
   ·have hne : vn ≠ v := by
     rintro rfl
     exact hji ((List.getElem?_inj (i := i) (by omega : i < xs.length) nd).1 (hvn.trans hv.symm)).symm
    rw [List.getElem?_set_ne hne, List.getElem?_set_ne hne]
    exact cat j v (by omega) hv
 have hie : i = ps.length := by have := of_decide_eq_false hT; omega
 subst hie
 obtain ⟨σ, hσ⟩ : ∃ σ, xs.map Int.toNat = σ := ⟨_, rfl⟩
 have hat : ∀ i v : Nat, σ[i]? = some v → i < ps.length ∧ xs[i]? = some (v : Int) := fun i v hv => by
  rw [← hσ, List.getElem?_map] at hv
  cases hw : xs[i]? with
  | none => rw [hw] at hv; cases hv
  | some w =>
   rw [hw] at hv
   have h1 : w.toNat = v := Option.some.inj hv
   have h2 := upTo_in (xp.mem_iff.1 (List.mem_of_getElem? hw))
   have h3 := (List.getElem?_eq_some_iff.1 hw).1
   exact ⟨by omega, by congr 1; omega⟩
 have hpm : σ.Perm (List.range ps.length) := by
  have := xp.map Int.toNat
  rw [hσ, upTo_nat] at this
  exact this
 have mv : Mv σ ps qs' := ⟨hpm, ql, fun i v hv => by
  obtain ⟨h1, h2⟩ := hat i v hv
  exact (cat i v h1 h2).1⟩
 have hrd : rd σ ms' = l := by
  apply List.ext_getElem?
  intro i
  by_cases hi : i < ps.length
  ·obtain ⟨v, hv, -⟩ := mv.get hi
   obtain ⟨h1, h2⟩ := hat i v hv
   rw [rd_at hv, (cat i v h1 h2).2, List.getElem?_eq_getElem (by omega)]; rfl
  ·rw [List.getElem?_eq_none (by rw [rd_len, mv.sl]; omega), List.getElem?_eq_none (by omega)]
 have rq : Rw pkE H2 (some ⟨b9, 0, none⟩) qs' := Rw.of (r := []) (by omega) (by rw [bo]; rfl) (by rw [List.append_nil])
 have rm : Rw intE H2 (some ⟨b13, 0, none⟩) ms' := Rw.of (r := []) (by omega) (by rw [bm]; rfl) (by rw [List.append_nil])
 have loq : LotOk qs' ms' := ⟨by omega, fun j n p hn hp => by
  have hj : j < ps.length := by have := (List.getElem?_eq_some_iff.1 hp).1; omega
  obtain ⟨i, hi⟩ := List.getElem?_of_mem (hpm.mem_iff.2 (List.mem_range.2 hj))
  obtain ⟨h1, h2⟩ := hat i j hi
  obtain ⟨q1, q2⟩ := cat i j h1 h2
  exact lt2.lo.ok i n p (q2 ▸ hn) (q1 ▸ hp)⟩
 have lo2 : LtR H2 (some ⟨b9, 0, none⟩) (some ⟨b10, 0, none⟩) (some ⟨b13, 0, none⟩) qs' gs lots ms' := ⟨⟨rq, og2, (chk_mv mv hst).chk⟩, rm, loq⟩
 simp (disch:=first|(simp only [yk,seval];done)|omega|(simp only [yz]<;>omega)|fail) only [↓yp,yq0,yq1,yq2,yq3,yq4,yl,ys0,ys1,seval,fitB,newC,endD,endR,yrg]
 rw [← hTL0]
 have b122q := b122
 rw [← ql] at b122q
 refine c11D (i8 := i8) (i12 := i12) (c4 := c4) (c13 := c13) (t := t) (by omega) ⟨lt2, lo2, mv, hrd, by omega, by omega, b82, b122q, ?_, ?_, ?_, ?_, ?_, I.tt, I.gn⟩
 ·simp (disch:=first|(simp only [yk,seval];done)|omega|(simp only [yz]<;>omega)|fail) only [yg,seval,g8]
 ·simp (disch:=first|(simp only [yk,seval];done)|omega|(simp only [yz]<;>omega)|fail) only [yg,seval,g10]
 ·simp (disch:=first|(simp only [yk,seval];done)|omega|(simp only [yz]<;>omega)|fail) only [yg,seval,g11]
 ·simp (disch:=first|(simp only [yk,seval];done)|omega|(simp only [yz]<;>omega)|fail) only [yg,seval,g12]
 ·simp (disch:=first|(simp only [yk,seval];done)|omega|(simp only [yz]<;>omega)|fail) only [yg,seval,g13,ml,hln]
end
end Go.Am.K
namespace Go.Am.K
open Go.Proofs
variable {T : Tab} {P : Program} {N L : Nat} {H H' H'' : AHeap} {Q : Bool → Value → AHeap → Prop}
section
variable {kq cq i5 b1 c1 b2 c2 b3 c3 b4 c4 i10 : Nat} {aq : Option Addr} {bq rs l : List Int} {ps : List Pk} {gs : List Gd} {lots lo hi sv : Int} {e e' : VT}
end
end Go.Am.K
namespace Go.Am.K
open Go.Proofs
variable {T : Tab} {P : Program} {N L : Nat} {H H' H'' : AHeap} {Q : Bool → Value → AHeap → Prop}
section
variable {a a2 : Option Addr} {cap cap2 : Nat} {bs bs2 : List Int}
set_option maxHeartbeats 8000000 in
set_option maxRecDepth 10000 in
theorem c11 {y : Int} (hb : Bts H a bs) (hb2 : Bts H a2 bs2) :
  acall tabA (aexec tabA Try.prog (N + 24000)) 11 [.slice a bs.length cap, .slice a2 bs2.length cap2, .int .i64 y] H = some (true, .bool true, H, H.size) := by
 refine call_quiet (k := 209) (rs := [.tmp 6]) rfl fn_11 rfl rfl rfl ?_ rfl
 obtain ⟨TL, hTL⟩ : ∃ c, sub [true, true, true, true, true, true] (bodyOf Try.f11) = c := ⟨_, rfl⟩
 have hTL0 := hTL
 simp only [Try.f11,bodyOf,sub_nil,sub_seq0,sub_seq1,sub_block,sub_loop,sub_cond0,sub_cond1] at hTL ⊢
 rw [hTL]
 clear hTL
 simp (disch:=first|(simp only [yk,seval];done)|omega|(simp only [yz]<;>omega)|fail) only [↓yp,yq0,yq1,yq2,yq3,yq4,yl,ys0,ys1,seval,fitB,newC,endD,endR,yrg]
 refine c34 hb (Nat.le_refl _) (by omega) ?_
 intro H1 fr1 hs1 hc1
 simp (disch:=first|(simp only [yk,seval];done)|omega|(simp only [yz]<;>omega)|fail) only [↓yp,yq0,yq1,yq2,yq3,yq4,yl,ys0,ys1,seval,fitB,newC,endD,endR,yrg]
 refine c33 hc1 (by omega) (by omega) (Nat.le_refl _) (by omega) ?_
 intro b1 c1 b2 c2 b3 c3 ps gs rs lots H2 mk r1 r2 r3 hc2 hx2
 have sz2 := hx2.size
 simp (disch:=first|(simp only [yk,seval];done)|omega|(simp only [yz]<;>omega)|fail) only [↓yp,yq0,yq1,yq2,yq3,yq4,yl,ys0,ys1,seval,fitB,newC,endD,endR,yrg]
 have hok := mk.chk (by omega) (by omega)
 have hst := chkS_ok hok
 have hpk : ∀ p ∈ ps, p.Ok := fun p hp => Pk.isB_ok (List.all_eq_true.1 hst.pb p hp)
 have hcm : Chu ((H2.alloc (.rw [.slice none 0 0, .slice none 0 0, .int .i64 0] 25 false [])).put H2.size (.rw [.slice (some ⟨b1, 0, none⟩) ps.length c1, .slice (some ⟨b2, 0, none⟩) gs.length c2, .int .i64 lots] 25 false [])) H.size a bs cap := (hc2.fr (Fr.alloc _ _)).other (by omega) (fun c e => by rw [get_alloc_eq rfl] at e; cases e)
 have frm : Fr H2 ((H2.alloc (.rw [.slice none 0 0, .slice none 0 0, .int .i64 0] 25 false [])).put H2.size (.rw [.slice (some ⟨b1, 0, none⟩) ps.length c1, .slice (some ⟨b2, 0, none⟩) gs.length c2, .int .i64 lots] 25 false [])) := by (repeat (first | exact Fr.refl _ | assumption | refine Fr.allocd ?_ _ | refine Fr.put ?_ (by first | omega | (simp only [yz] <;> omega)) _))
 refine c35 hcm (r1.fr frm) hst.l1 hst.l4 (fun p hp => (hpk p hp).s) (Nat.le_refl _) (by omega) ?_
 intro b4 c4 l H3 lok r4 hc3 hx3
 have sz3 := hx3.size
 simp only [size_put,size_alloc] at sz3
 have b63 : H3.get H2.size = .rw [.slice (some ⟨b1, 0, none⟩) ps.length c1, .slice (some ⟨b2, 0, none⟩) gs.length c2, .int .i64 lots] 25 false [] := by
  rw [hx3.same _ (by first|omega|(simp only [yz]<;>omega)) (by omega)]; exact get_put_same (by first|omega|(simp only [yz]<;>omega))
 have h48 := fun (N : Nat) (H : AHeap) => c48 (N := N) (H := H) (v := y) (n := 2) (by omega)
 have hby := wrapV_in (v := y) (n := 2) (by omega)
 obtain ⟨by', hbye⟩ : ∃ by', wrapV y 2 = by' := ⟨_, rfl⟩
 rw [hbye] at h48 hby
 have w1 : w64 (1 + by') = 1 + by' := w64_of (by omega)
 have rr1 := (r1.fr frm).frx hx3
 have rr2 := (r2.fr frm).frx hx3
 have pne : ps ≠ [] := by rintro rfl; have := hst.l1; simp at this
 have gne : gs ≠ [] := by rintro rfl; have := mk.g1; simp at this
 have lne : l ≠ [] := by have := lok.len; rintro rfl; have := hst.l1; simp at *; omega
 simp (disch:=first|(simp only [yk,seval];done)|omega|(simp only [yz]<;>omega)|fail) only [↓yp,yq0,yq1,yq2,yq3,yq4,yl,ys0,ys1,seval,fitB,newC,endD,endR,yrg,b63,h48,w1]
 refine c14o rr1.rw rr2.rw (by have := hst.l4; omega) (by have := hst.g4; omega) pne gne (by omega) (by omega) ?_
 intro b9 c9 b10 c10 H4 fr4 k9 k10 k11 e9 e10
 have sz4 := fr4.size
 simp (disch:=first|(simp only [yk,seval];done)|omega|(simp only [yz]<;>omega)|fail) only [↓yp,yq0,yq1,yq2,yq3,yq4,yl,ys0,ys1,seval,fitB,newC,endD,endR,yrg]
 refine c24 (r4.rw.fr fr4) lne (by have := lok.len; have := hst.l4; omega) (by omega) (by omega) ?_
 intro b13 c13 H5 fr5 k13 k13' e13
 have sz5 := fr5.size
 simp (disch:=first|(simp only [yk,seval];done)|omega|(simp only [yz]<;>omega)|fail) only [↓yp,yq0,yq1,yq2,yq3,yq4,yl,ys0,ys1,seval,fitB,newC,endD,endR,yrg]
 obtain ⟨G, hG⟩ : ∃ G, (H5.alloc (.rw [.slice none 0 0, .slice none 0 0, .int .i64 0] 25 false [])).put H5.size (.rw [.slice (some ⟨b9, 0, none⟩) ps.length c9, .slice (some ⟨b10, 0, none⟩) gs.length c10, .int .i64 lots] 25 false []) = G := ⟨_, rfl⟩
 have f5G : Fr H5 G := by rw [← hG]; (repeat (first | exact Fr.refl _ | assumption | refine Fr.allocd ?_ _ | refine Fr.put ?_ (by first | omega | (simp only [yz] <;> omega)) _))
 have sG : G.size = H5.size + 1 := by rw [← hG]; (first | omega | (simp only [yz] <;> omega))
 have bG : G.get H5.size = .rw [.slice (some ⟨b9, 0, none⟩) ps.length c9, .slice (some ⟨b10, 0, none⟩) gs.length c10, .int .i64 lots] 25 false [] := by rw [← hG]; exact get_put_same (by first|omega|(simp only [yz]<;>omega))
 rw [hG, ← hTL0]
 have f3G : Fr H3 G := (fr4.trans fr5).trans f5G
 have fr3 : Fr H H3 := hx3.above (Fr.put (Fr.allocd (hx2.above fr1 (by omega)) _) (by omega) _) (by omega)
 have bl1 : b1 < H3.size := by
  obtain ⟨b, o, c, e1, l1, -⟩ := rr1.rw.get pne
  cases e1; exact l1
 have bl2 : b2 < H3.size := by
  obtain ⟨b, o, c, e1, l1, -⟩ := rr2.rw.get gne
  cases e1; exact l1
 have bl4 : b4 < H3.size := by
  obtain ⟨b, o, c, e1, l1, -⟩ := r4.rw.get lne
  cases e1; exact l1
 have rg4 : Rw gdE H4 (some ⟨b10, 0, none⟩) gs := Rw.of (r := []) k11 (by rw [e10]; rfl) (by rw [List.append_nil])
 have lt3 : LtR H3 (some ⟨b1, 0, none⟩) (some ⟨b2, 0, none⟩) (some ⟨b4, 0, none⟩) ps gs lots l := ⟨⟨rr1.rw, rr2.rw, hok⟩, r4.rw, lok⟩
 refine c11A (cap2 := cap2) (z := H3.size) (i8 := H2.size) (i12 := H5.size) (b1 := b1) (c1 := c1) (b2 := b2) (c2 := c2) (b4 := b4) (c4 := c4) (b9 := b9) (c9 := c9) (b10 := b10) (c10 := c10) (b13 := b13) (c13 := c13) (ps := ps) (qs := ps) (gs := gs) (lots := lots) (t := 1 + by') (l := l) (ms := l) (by have := fr3.size; omega) (by have := fr3.size; omega)
  ⟨lt3.fr f3G, (rg4.fr fr5).fr f5G, (f5G.same _ (by omega)).trans ((fr5.same _ (by omega)).trans e9), (f5G.same _ (by omega)).trans e13, rfl, lok.len, by omega, (f3G.same _ (by omega)).trans b63, bG, ?_, ?_, ?_, ?_, ?_, by omega, gne⟩ (hb2.fr (fr3.trans f3G)) ?_
 ·simp (disch:=first|(simp only [yk,seval];done)|omega|(simp only [yz]<;>omega)|fail) only [yg,seval]
 ·simp (disch:=first|(simp only [yk,seval];done)|omega|(simp only [yz]<;>omega)|fail) only [yg,seval]
 ·simp (disch:=first|(simp only [yk,seval];done)|omega|(simp only [yz]<;>omega)|fail) only [yg,seval]
 ·simp (disch:=first|(simp only [yk,seval];done)|omega|(simp only [yz]<;>omega)|fail) only [yg,seval]
 ·simp (disch:=first|(simp only [yk,seval];done)|omega|(simp only [yz]<;>omega)|fail) only [yg,seval]
 ·simp (disch:=first|(simp only [yk,seval];done)|omega|(simp only [yz]<;>omega)|fail) only [yg,seval]
end
end Go.Am.K
