import Derived.Test.YtbofjfjopeaefaaT43
set_option linter.unusedSimpArgs false
set_option linter.unusedVariables false
namespace Go.Am.K
open Go.Proofs
variable {T : Tab} {P : Program} {N L : Nat} {H H' H'' : AHeap} {Q : Bool → Value → AHeap → Prop}
variable {ps : List Pk} {gs : List Gd} {a a' : Option Addr} {cap cap' : Nat} {lots : Int} {mk km kb wb fb : Nat}
theorem sb_in : ∀ {r y : List Int}, (∀ n ∈ r, 0 ≤ n ∧ n ≤ 6) → LV r y → ∀ n ∈ sbL r y, 0 ≤ n ∧ n ≤ 6
 | [], [], _, _ => fun n hn => by simp [sbL] at hn
 | m :: ms, x :: xs, hm, h => fun n hn => by
  have hn' : n ∈ (m - x) :: sbL ms xs := hn
  rcases List.mem_cons.1 hn' with rfl | hn'
  ·have := hm m (by simp)
   have := h.1
   omega
  ·exact sb_in (fun n hn => hm n (by simp [hn])) h.2 n hn'
 | [], _ :: _, _, h => h.elim
 | _ :: _, [], _, h => h.elim
set_option maxHeartbeats 4000000 in
set_option maxRecDepth 10000 in
theorem c122s (hl : ps.length ≤ 4) (hpk : ∀ p ∈ ps, p.Ok) (hgl : gs.length ≤ 4) (hgk : ∀ g ∈ gs, g.Ok) {r : K4} (k : Nat) (hk50 : k ≤ 50) (hr : ∀ n ∈ l4 r, 0 ≤ n ∧ n ≤ 6) (X : NX ps gs a a' cap cap' lots mk km kb wb fb H) (hL : L ≤ mk ∧ L ≤ km)
  (ih : ∀ k', k = k' + 1 → ∀ (M : Nat) (H' : AHeap) (r' : K4), N ≤ M → (∀ n ∈ l4 r', 0 ≤ n ∧ n ≤ 6) → NX ps gs a a' cap cap' lots mk km kb wb fb H' → resK (acall tabA (aexec tabA Try.prog M) 122 [k5 (r', (k' : Int)), ptr kb, ptr wb, ptr fb] H') L fun b v H'' => (b = true → H'' = H') ∧ NxR ps gs mk km r' k' H' v H'') :
  resK (acall tabA (aexec tabA Try.prog (N + 4000)) 122 [k5 (r, (k : Int)), ptr kb, ptr wb, ptr fb] H) L fun b v H' => (b = true → H' = H) ∧ NxR ps gs mk km r k H v H' := by
 obtain ⟨x1, x2, x3, x4, x5⟩ := X.lt
 refine call_keepD tabA_fr (R := NxR ps gs mk km r k H) (k := 56) (rs := [.cell 5 178]) rfl fn_122 rfl rfl rfl (by omega) ?_ (fun v H' h => ⟨fun h => (by cases h), h⟩) ?_
 rotate_left
 ·rintro v H' ⟨s, n, rfl, h1, h2, h3, h4⟩ _ fr
  exact ⟨fun _ => rfl, s, n, rfl, h1, Sm.refl, by rw [← fr.same mk x4]; exact h3, by rw [← fr.same km x5]; exact h4⟩
 obtain ⟨r0, r1, r2, r3⟩ := r
 obtain ⟨F, hM, hF⟩ := X.kn
 have kv := X.kv
 simp only [k5,ptr]
 simp (disch:=first|(simp only [yk,seval];done)|omega|(simp only [yz]<;>omega)|fail) only [↓yp,yA,ys0,ys1,seval,fitB,newC,endD,endR,yrg,st_alS_178,st_inS_178,st_ldS_178,st_ldS_173,st_ldS_176,st_ldS_174,st_faS_176_0,st_faS_176_1,st_faS_178_1,kv]
 refine A_look (F := F) (s := ((r0, r1, r2, r3), (k : Int))) (k := km) mapR (by simp (disch:=first|(simp only [yk,seval];done)|omega|(simp only [yz]<;>omega)|fail) only [↓yp,yA,ys0,ys1,seval,fitB,newC,endD,endR,yrg]) (by simp (disch:=first|(simp only [yk,seval];done)|omega|(simp only [yz]<;>omega)|fail) only [↓yp,yA,ys0,ys1,seval,fitB,newC,endD,endR,yrg,k5]) (by rw [get_alloc_lt (by first|omega|(simp only [yz]<;>omega)), get_alloc_lt (by first|omega|(simp only [yz]<;>omega))]; exact hM) (by first|omega|(simp only [yz]<;>omega)) ?_
 cases hf : flk F ((r0, r1, r2, r3), (k : Int)) with
 | some u =>
  obtain ⟨⟨s0, s1, s2, s3⟩, n⟩ := u
  have hu := (hF _ (flk_mem hf)).2
  simp (disch:=first|(simp only [yk,seval];done)|omega|(simp only [yz]<;>omega)|fail) only [↓yp,yA,ys0,ys1,seval,fitB,newC,endD,endR,yrg,st_alS_178,st_inS_178,st_ldS_178,st_ldS_173,st_ldS_176,st_ldS_174,st_faS_176_0,st_faS_176_1,st_faS_178_1,Option.getD_some,Option.isSome_some,k5]
  refine ⟨fun k hk => by simp at hk, by (first | omega | (simp only [yz] <;> omega)), _, rfl, k5 ((s0, s1, s2, s3), n), ?_, ?_⟩
  ·simp (disch:=first|(simp only [yk,seval];done)|omega|(simp only [yz]<;>omega)|fail) only [↓yp,yA,ys0,ys1,seval,fitB,newC,endD,endR,yrg,st_ldS_178,k5]
  refine ret_ (s := (s0, s1, s2, s3)) X (by dsimp only; (repeat (first | exact Fr.refl _ | assumption | refine Fr.allocd ?_ _ | refine Fr.put ?_ (by first | omega | (simp only [yz] <;> omega)) _))) ?_
  simpa using hu
 | none =>
  have h123 := fun (N : Nat) (H' : AHeap) (Q : Bool → Value → AHeap → Prop) (hL : L ≤ H'.size) => c123 (N := N) (H := H') (Q := Q) (L := L) (m := [r0, r1, r2, r3]) rfl hL
  simp only [tv,List.map_cons,List.map_nil] at h123
  cases h0 : decide ((k : Int) = 0) with
  | true =>
   have hk : k = 0 := by have := of_decide_eq_true h0; omega
   subst hk
   simp (disch:=first|(simp only [yk,seval];done)|omega|(simp only [yz]<;>omega)|fail) only [↓yp,yA,ys0,ys1,seval,fitB,newC,endD,endR,yrg,st_alS_178,st_inS_178,st_ldS_178,st_ldS_173,st_ldS_176,st_ldS_174,st_faS_176_0,st_faS_176_1,st_faS_178_1,Option.getD_none,Option.isSome_none,k5,h0]
   refine ⟨fun k hk => by simp at hk, by (first | omega | (simp only [yz] <;> omega)), _, rfl, k5 ((0, 0, 0, 0), 0), ?_, ?_⟩
   ·simp (disch:=first|(simp only [yk,seval];done)|omega|(simp only [yz]<;>omega)|fail) only [↓yp,yA,ys0,ys1,seval,fitB,newC,endD,endR,yrg,st_ldS_178,k5]
   exact ret_ (s := (0, 0, 0, 0)) X (by dsimp only; (repeat (first | exact Fr.refl _ | assumption | refine Fr.allocd ?_ _ | refine Fr.put ?_ (by first | omega | (simp only [yz] <;> omega)) _))) SaleOk.zero
  | false =>
   obtain ⟨k', rfl⟩ : ∃ k', k = k' + 1 := ⟨k - 1, by have := of_decide_eq_false h0; omega⟩
   have ih := ih k' rfl
   simp (disch:=first|(simp only [yk,seval];done)|omega|(simp only [yz]<;>omega)|fail) only [↓yp,yA,ys0,ys1,seval,fitB,newC,endD,endR,yrg,st_alS_178,st_inS_178,st_ldS_178,st_ldS_173,st_ldS_176,st_ldS_174,st_faS_176_0,st_faS_176_1,st_faS_178_1,Option.getD_none,Option.isSome_none,k5,h0,part5]
   rw [h123 _ _ _ (by first|omega|(simp only [yz]<;>omega))]
   simp (disch:=first|(simp only [yk,seval];done)|omega|(simp only [yz]<;>omega)|fail) only [↓yp,yA,ys0,ys1,seval,fitB,newC,endD,endR,yrg]
   refine W_gen (fun e6 H6 => gt 56 e6 25 = .func (.func 131) ⟨[]⟩ ⟨[.pointer (some ⟨H.size + 1 + 1 + 1, 0, none⟩)]⟩ ∧ gt 56 e6 1 = .pointer (some ⟨kb, 0, none⟩) ∧ gt 56 e6 2 = .pointer (some ⟨wb, 0, none⟩) ∧ gt 56 e6 3 = .pointer (some ⟨fb, 0, none⟩) ∧ gt 56 e6 4 = .pointer (some ⟨H.size, 0, none⟩) ∧ gt 56 e6 5 = .pointer (some ⟨H.size + 1, 0, none⟩) ∧ gt 56 e6 6 = .pointer (some ⟨H.size + 1 + 1, 0, none⟩) ∧ Fr H H6 ∧ H6.size = H.size + 4 ∧
    H6.get H.size = .rw [.int .i64 r0, .int .i64 r1, .int .i64 r2, .int .i64 r3, .int .i64 ((k' + 1 : Nat) : Int)] 176 false [] ∧ H6.get (H.size + 1) = .rw [.int .i64 0, .int .i64 0, .int .i64 0, .int .i64 0, .int .i64 0] 178 false [] ∧ H6.get (H.size + 1 + 1) = .rw [.int .i64 0, .int .i64 0, .int .i64 0, .int .i64 0, .int .i64 0] 178 false [] ∧ H6.get (H.size + 1 + 1 + 1) = .rw [.int .i64 r0, .int .i64 r1, .int .i64 r2, .int .i64 r3] 119 false []) ⟨?_, ?_, ?_, ?_, ?_, ?_, ?_, ?_, ?_, ?_, ?_, ?_, ?_⟩ ?_
   ·simp (disch:=first|(simp only [yk,seval];done)|omega|(simp only [yz]<;>omega)|fail) only [yg,seval]
   ·simp (disch:=first|(simp only [yk,seval];done)|omega|(simp only [yz]<;>omega)|fail) only [yg,seval]
   ·simp (disch:=first|(simp only [yk,seval];done)|omega|(simp only [yz]<;>omega)|fail) only [yg,seval]
   ·simp (disch:=first|(simp only [yk,seval];done)|omega|(simp only [yz]<;>omega)|fail) only [yg,seval]
   ·simp (disch:=first|(simp only [yk,seval];done)|omega|(simp only [yz]<;>omega)|fail) only [yg,seval]
   ·simp (disch:=first|(simp only [yk,seval];done)|omega|(simp only [yz]<;>omega)|fail) only [yg,seval]
   ·simp (disch:=first|(simp only [yk,seval];done)|omega|(simp only [yz]<;>omega)|fail) only [yg,seval]
   ·(repeat (first | exact Fr.refl _ | assumption | refine Fr.allocd ?_ _ | refine Fr.put ?_ (by first | omega | (simp only [yz] <;> omega)) _))
   ·(first | omega | (simp only [yz] <;> omega))
   ·simp (disch:=first|(simp only [yk,seval];done)|omega|(simp only [yz]<;>omega)|fail) only [yg,seval]
   ·simp (disch:=first|(simp only [yk,seval];done)|omega|(simp only [yz]<;>omega)|fail) only [yg,seval]
   ·simp (disch:=first|(simp only [yk,seval];done)|omega|(simp only [yz]<;>omega)|fail) only [yg,seval]
   ·simp (disch:=first|(simp only [yk,seval];done)|omega|(simp only [yz]<;>omega)|fail) only [yg,seval]
   clear h123 hf h0 hM hF F
   rintro e6 H6 ⟨g25, g1, g2, g3, g4, g5, g6, fr6, sz6, b4, b5, b6, bm⟩
   have hr6 : (0 ≤ r0 ∧ r0 ≤ 6) ∧ (0 ≤ r1 ∧ r1 ≤ 6) ∧ (0 ≤ r2 ∧ r2 ≤ 6) ∧ (0 ≤ r3 ∧ r3 ≤ 6) := ⟨hr r0 (by simp [l4]), hr r1 (by simp [l4]), hr r2 (by simp [l4]), hr r3 (by simp [l4])⟩
   have X6 := X.fr fr6
   obtain ⟨kk, hkk⟩ : ∃ kk : Int, ((k' + 1 : Nat) : Int) = kk := ⟨_, rfl⟩
   rw [hkk] at b4
   refine W_lots (J := NJ ps gs mk km H.size H6 [r0, r1, r2, r3] k') (K₀ := N + 1000) (m0 := r0) (m1 := r1) (m2 := r2) (m3 := r3) (b1 := H.size + 1 + 1 + 1) hr6 ?_ ?_ (fun k H' J => J.sz) ?_ (by omega) ?_ (by omega) (by omega) g25 ?_ ?_ (by omega) ?_
   ·rintro j Ha Hb ⟨h1, h2, h3, h4, s0, s1, s2, s3, v, h5, h6⟩ fr
    exact ⟨Nat.le_trans h1 fr.size, fun i hi n1 n2 n3 => by rw [fr.same i (by omega)]; exact h2 i hi n1 n2 n3, by rw [fr.same mk (by omega)]; exact h3, by rw [fr.same km (by omega)]; exact h4, s0, s1, s2, s3, v, h5, by rw [fr.same _ (by omega)]; exact h6⟩
   ·rintro j Ha Hb q ⟨h1, h2, h3, h4, s0, s1, s2, s3, v, h5, h6⟩ hq hs' ho
    exact ⟨by omega, fun i hi n1 n2 n3 => by rw [ho i (by omega)]; exact h2 i hi n1 n2 n3, by rw [ho mk (by omega)]; exact h3, by rw [ho km (by omega)]; exact h4, s0, s1, s2, s3, v, h5, by rw [ho _ (by omega)]; exact h6⟩
   ·rintro j Ha J
    rw [J.same _ (by omega) (by omega) (by omega) (by omega)]; exact bm
   ·rintro j Ha Hb J0 ⟨h1, h2, h3, h4, s0, s1, s2, s3, v, h5, h6⟩ fr
    have h1' := J0.sz
    exact ⟨h1', fun i hi n1 n2 n3 => J0.same i hi n1 n2 n3, J0.br, J0.kn, s0, s1, s2, s3, v, h5, by rw [← fr.same _ (by omega)]; exact h6⟩
   ·intro blk
    have f2 : Fr H6 ((H6.alloc .defer).alloc blk) := by (repeat (first | exact Fr.refl _ | assumption | refine Fr.allocd ?_ _ | refine Fr.put ?_ (by first | omega | (simp only [yz] <;> omega)) _))
    refine ⟨by (first | omega | (simp only [yz] <;> omega)), fun i hi _ _ _ => f2.same i hi, by rw [f2.same mk (by omega)]; exact X6.br, by rw [f2.same km (by omega)]; exact X6.kn, 0, 0, 0, 0, 0, TryB.begin_, ?_⟩
    rw [f2.same _ (by omega)]; exact b6
   ·rintro M2 hM2 j Ha x e' J hv hx hlb hdf ge ge'
    obtain ⟨M, rfl⟩ : ∃ M', M2 = M' + 1000 := ⟨M2 - 1000, by omega⟩
    have hNM : N ≤ M := by omega
    obtain ⟨s0, s1, s2, s3, v, T0, jb⟩ := J.best
    have jz := J.sz
    have jf : ∀ i, i < H6.size → i ≠ mk → i ≠ km → i ≠ H.size + 1 + 1 → Ha.get i = H6.get i := J.same
    obtain ⟨y0, y1, y2, y3, rfl⟩ := four (show x.length = 4 by rw [LV_len hv]; rfl)
    have hy6 := LV_in hv fun n hn => (hr n hn).2
    have e1 := (ge' 1 (by decide)).trans g1
    have e2 := (ge' 2 (by decide)).trans g2
    have e3 := (ge' 3 (by decide)).trans g3
    have e4 := (ge' 4 (by decide)).trans g4
    have e6 := (ge' 6 (by decide)).trans g6
    have XA : NX ps gs a a' cap cap' lots mk km kb wb fb Ha := by
     refine X.sm ⟨by omega, fun i hi n1 n2 => ?_⟩ J.br J.kn
     rw [jf i (by omega) n1 n2 (by omega)]
     exact fr6.same i hi
    have hw := XA.w
    simp only [tv,List.map_cons,List.map_nil] at ge
    simp (disch:=first|(simp only [yk,seval];done)|omega|(simp only [yz]<;>omega)|fail) only [↓yp,yA,ys0,ys1,seval,fitB,newC,endD,endR,yrg,ge]
    refine midY_gen (by simp (disch:=first|(simp only [yk,seval];done)|omega|(simp only [yz]<;>omega)|fail) only [yg,seval]; exact hlb) ?_
    intro bz hbz
    have V0 : RV ps gs a a' cap cap' lots mk km kb wb fb H.size H6 Ha bz (.rw [.int .i64 s0, .int .i64 s1, .int .i64 s2, .int .i64 s3, .int .i64 v] 178 false []) (.rw [.int .i64 y0, .int .i64 y1, .int .i64 y2, .int .i64 y3] 119 false []) (((Ha.alloc (.rw [.int .i64 0, .int .i64 0, .int .i64 0, .int .i64 0] 119 false [])).put Ha.size (.rw [.int .i64 y0, .int .i64 y1, .int .i64 y2, .int .i64 y3] 119 false [])).put (H6.size + 1) bz) := by
     refine ⟨X.sm ⟨by (first | omega | (simp only [yz] <;> omega)), fun i hi n1 n2 => ?_⟩ ?_ ?_, by (first | omega | (simp only [yz] <;> omega)), fun i hi n1 n2 n3 => ?_, fun i hi hi' => ?_, ?_, ?_, ?_, ?_⟩
     ·rw [get_put_ne (by omega), get_put_ne (by omega), get_alloc_lt (by omega), jf i (by omega) n1 n2 (by omega)]; exact fr6.same i hi
     ·rw [get_put_ne (by omega), get_put_ne (by omega), get_alloc_lt (by omega)]; exact J.br
     ·rw [get_put_ne (by omega), get_put_ne (by omega), get_alloc_lt (by omega)]; exact J.kn
     ·rw [get_put_ne (by omega), get_put_ne (by omega), get_alloc_lt (by omega)]; exact jf i hi n1 n2 n3
     ·rw [get_put_ne (by omega), get_put_ne (by omega), get_alloc_lt (by omega)]
     ·rw [get_put_ne (by omega), get_put_ne (by omega), get_alloc_lt (by omega)]; exact jb
     ·rw [get_put_ne (by omega), get_put_same (by first|omega|(simp only [yz]<;>omega))]
     ·rw [get_put_same (by first|omega|(simp only [yz]<;>omega))]
     ·rw [get_put_ne (by omega), get_put_ne (by omega), get_alloc_lt (by omega)]; exact hdf
    simp (disch:=first|(simp only [yk,seval];done)|omega|(simp only [yz]<;>omega)|fail) only [↓yp,yA,ys0,ys1,seval,fitB,newC,endD,endR,yrg,e2,hw]
    refine resK_lowQ (c93 (N := M + 197) (s := (y0, y1, y2, y3)) (cap := cap) (cap' := cap') (lo := .int .i64 lots) V0.nx.hs hl hpk V0.nx.hg hgl hgk hy6 sv_int V0.nx.br V0.nx.lt.2.2.2.1) hL.1 ?_
    rintro q _ H2 ⟨rfl, hz2, hs2, hb2⟩
    have V1 := V0.sm (Hy := H2) ⟨hz2, fun i hi n1 _ => hs2 i hi n1⟩ hb2 (by rw [hs2 km V0.nx.lt.2.2.2.2 X.ne.symm]; exact V0.nx.kn) ⟨x4, x5, by omega, by omega⟩
    clear V0 hs2 hz2 hb2
    obtain ⟨n, hn⟩ : ∃ n, brg ps gs (l4 (y0, y1, y2, y3)) = n := ⟨_, rfl⟩
    rw [hn]
    have hn' : brg ps gs [y0, y1, y2, y3] = n := hn
    have hnb := brg_in (ps := ps) (gs := gs) hgk (r := [r0, r1, r2, r3]) rfl hr hv
    rw [hn'] at hnb
    have q4 : H2.get H.size = .rw [.int .i64 r0, .int .i64 r1, .int .i64 r2, .int .i64 r3, .int .i64 kk] 176 false [] := (V1.same _ (by omega) (by omega) (by omega) (by omega)).trans b4
    have q6 := V1.best
    have vz := V1.sz
    have hwm : w64 (n * kk) = n * kk := w64_of (by
     have := Int.mul_nonneg hnb.1 (show 0 ≤ kk by omega)
     have := Int.mul_le_mul hnb.2 (show kk ≤ 50 by omega) (by omega) (by omega : (0 : Int) ≤ 2400)
     omega)
    have hTv : 0 ≤ v ∧ v ≤ 2400 * 51 := by
     refine ⟨T0.nn, ?_⟩
     by_cases hp : 0 < v
     ·obtain ⟨t1, w, t2, t3⟩ := T0.pos hp
      have u1 := brg_in (ps := ps) (gs := gs) hgk (r := [r0, r1, r2, r3]) rfl hr t1
      have u2 := opt_in (ps := ps) (gs := gs) hgk (r := sbL [r0, r1, r2, r3] [s0, s1, s2, s3]) rfl (sb_in hr t1) t2
      omega
     ·omega
    cases hC : decide (n * kk ≤ v)
    ·simp (disch:=first|(simp only [yk,seval];done)|omega|(simp only [yz]<;>omega)|fail) only [↓yp,yA,ys0,ys1,seval,fitB,newC,endD,endR,yrg,st_alS_178,st_inS_178,st_ldS_178,st_ldS_173,st_ldS_176,st_ldS_174,st_faS_176_0,st_faS_176_1,st_faS_178_1,e4,e6,q4,q6,hwm,hC]
     have h124 := fun (N : Nat) (H : AHeap) => c124 (N := N) (H := H) (r0 := r0) (r1 := r1) (r2 := r2) (r3 := r3) (l0 := y0) (l1 := y1) (l2 := y2) (l3 := y3) (k := kk) (by omega) (by omega) (by omega) (by omega) (by have := hy6 y0 (by simp); omega) (by have := hy6 y1 (by simp); omega) (by have := hy6 y2 (by simp); omega) (by have := hy6 y3 (by simp); omega) (by omega)
     have hk1 : kk - 1 = (k' : Int) := by omega
     simp only [hk1] at h124
     have hsb := sb_in hr hv
     have hih := ih (M + 995) H2 (r0 - y0, r1 - y1, r2 - y2, r3 - y3) (by omega) hsb V1.nx
     simp only [k5,ptr] at hih
     obtain ⟨b, w, H3, m, hc, hm, hbH, ⟨t0, t1, t2, t3⟩, n', rfl, hS, sm3, br3, kn3⟩ := resK_elim hih
     have V2 := V1.sm sm3 br3 kn3 ⟨x4, x5, by omega, by omega⟩
     have hn2 := opt_in (ps := ps) (gs := gs) hgk (r := sbL [r0, r1, r2, r3] [y0, y1, y2, y3]) rfl hsb hS.opt
     have hwa : w64 (n + n') = n + n' := w64_of (by omega)
     have T1 := T0.take hv hx hS.opt
     rw [hn'] at T1
     have fv1 := V1.nx.fv
     have fv2 := V2.nx.fv
     have lo1 := V1.lot
     have lo2 := V2.lot
     have u4 : H3.get H.size = .rw [.int .i64 r0, .int .i64 r1, .int .i64 r2, .int .i64 r3, .int .i64 kk] 176 false [] := (V2.same _ (by omega) (by omega) (by omega) (by omega)).trans b4
     have u6 := V2.best
     have vz2 := V2.sz
     simp only [ptr] at fv1 fv2
     simp only [k5] at hc
     have V3 := fun best' => V2.store (best' := best') ⟨x4, x5, by omega, by omega⟩ ⟨x1, x2, x3⟩ (rw_sm X.hs (by rw [size_put]; omega) (fun i hi n1 n2 => by rw [get_put_ne (by omega), V2.same i (by omega) n1 n2 (by omega)]; exact fr6.same i hi) X.br.map X.kn.map) (rw_sm X.hg (by rw [size_put]; omega) (fun i hi n1 n2 => by rw [get_put_ne (by omega), V2.same i (by omega) n1 n2 (by omega)]; exact fr6.same i hi) X.br.map X.kn.map)
     cases b
     ·refine W_draw [5] rfl (by kernel_rfl) (by kernel_rfl) (by first|omega|(simp only [yz]<;>omega)) ?_
      cases hD : decide (v < n + n')
      ·simp (disch:=first|(simp only [yk,seval];done)|omega|(simp only [yz]<;>omega)|fail) only [↓yp,yA,ys0,ys1,seval,fitB,newC,endD,endR,yrg,st_alS_178,st_inS_178,st_ldS_178,st_ldS_173,st_ldS_176,st_ldS_174,st_faS_176_0,st_faS_176_1,st_faS_178_1,A_build st_bdS_178,e3,e4,e6,q4,q6,fv1,fv2,lo1,lo2,u4,u6,h124,hc,A_fld178,fl178_of,hwa,hD]
       rw [if_neg (of_decide_eq_false hD), if_neg (of_decide_eq_false hD)] at T1
       refine endY_normal (H := _) (l := H6.size + 1) (by rw [V2.bz]; exact hbz) ?_
       exact rv_end V2 T1 ⟨x4, x5, by omega, by omega⟩
      ·simp (disch:=first|(simp only [yk,seval];done)|omega|(simp only [yz]<;>omega)|fail) only [↓yp,yA,ys0,ys1,seval,fitB,newC,endD,endR,yrg,st_alS_178,st_inS_178,st_ldS_178,st_ldS_173,st_ldS_176,st_ldS_174,st_faS_176_0,st_faS_176_1,st_faS_178_1,A_build st_bdS_178,e3,e4,e6,q4,q6,fv1,fv2,lo1,lo2,u4,u6,h124,hc,A_fld178,fl178_of,hwa,hD]
       rw [if_pos (of_decide_eq_true hD), if_pos (of_decide_eq_true hD)] at T1
       refine endY_normal (H := _) (l := H6.size + 1) (by rw [get_put_ne (by omega), V2.bz]; exact hbz) ?_
       exact rv_end (V3 _) T1 ⟨x4, x5, by omega, by omega⟩
     ·obtain rfl := hbH rfl
      refine W_draw [] rfl (by kernel_rfl) (by kernel_rfl) (by first|omega|(simp only [yz]<;>omega)) ?_
      cases hD : decide (v < n + n')
      ·simp (disch:=first|(simp only [yk,seval];done)|omega|(simp only [yz]<;>omega)|fail) only [↓yp,yA,ys0,ys1,seval,fitB,newC,endD,endR,yrg,st_alS_178,st_inS_178,st_ldS_178,st_ldS_173,st_ldS_176,st_ldS_174,st_faS_176_0,st_faS_176_1,st_faS_178_1,A_build st_bdS_178,e3,e4,e6,q4,q6,fv1,fv2,lo1,lo2,u4,u6,h124,hc,A_fld178,fl178_of,hwa,hD]
       rw [if_neg (of_decide_eq_false hD), if_neg (of_decide_eq_false hD)] at T1
       refine endY_normal (H := _) (l := H6.size + 1) (by rw [V2.bz]; exact hbz) ?_
       exact rv_end V2 T1 ⟨x4, x5, by omega, by omega⟩
      ·simp (disch:=first|(simp only [yk,seval];done)|omega|(simp only [yz]<;>omega)|fail) only [↓yp,yA,ys0,ys1,seval,fitB,newC,endD,endR,yrg,st_alS_178,st_inS_178,st_ldS_178,st_ldS_173,st_ldS_176,st_ldS_174,st_faS_176_0,st_faS_176_1,st_faS_178_1,A_build st_bdS_178,e3,e4,e6,q4,q6,fv1,fv2,lo1,lo2,u4,u6,h124,hc,A_fld178,fl178_of,hwa,hD]
       rw [if_pos (of_decide_eq_true hD), if_pos (of_decide_eq_true hD)] at T1
       refine endY_normal (H := _) (l := H6.size + 1) (by rw [get_put_ne (by omega), V2.bz]; exact hbz) ?_
       exact rv_end (V3 _) T1 ⟨x4, x5, by omega, by omega⟩
    ·simp (disch:=first|(simp only [yk,seval];done)|omega|(simp only [yz]<;>omega)|fail) only [↓yp,yA,ys0,ys1,seval,fitB,newC,endD,endR,yrg,st_alS_178,st_inS_178,st_ldS_178,st_ldS_173,st_ldS_176,st_ldS_174,st_faS_176_0,st_faS_176_1,st_faS_178_1,e4,e6,q4,q6,hwm,hC]
     refine endY_normal (H := _) (l := H6.size + 1) (by rw [V1.bz]; exact hbz) ?_
     exact rv_end V1 (T0.skip hv hx (by rw [hn']; exact hnb.1) (by rw [hn']; have := of_decide_eq_true hC; rw [show (k' : Int) + 1 = kk by omega]; exact this)) ⟨x4, x5, by omega, by omega⟩
   ·rintro H'' blk J hdf
    obtain ⟨s0, s1, s2, s3, v, T0, jb⟩ := J.best
    have jz := J.sz
    have jf : ∀ i, i < H6.size → i ≠ mk → i ≠ km → i ≠ H.size + 1 + 1 → H''.get i = H6.get i := J.same
    obtain ⟨F, hM, hF⟩ := J.kn
    have c4 : H''.get H.size = .rw [.int .i64 r0, .int .i64 r1, .int .i64 r2, .int .i64 r3, .int .i64 kk] 176 false [] := (jf _ (by omega) (by omega) (by omega) (by omega)).trans b4
    have c5 := (jf _ (by omega) (by omega) (by omega) (by omega)).trans b5
    have ckb : H''.get kb = .rw [.map (some km)] 173 false [] := by
     obtain ⟨_, _, m1⟩ := X.br.map
     obtain ⟨_, _, m2⟩ := X.kn.map
     rw [jf kb (by omega) (fun e => by rw [e, m1] at kv; cases kv) (fun e => by rw [e, m2] at kv; cases kv) (by omega), fr6.same kb x2]; exact kv
    simp (disch:=first|(simp only [yk,seval];done)|omega|(simp only [yz]<;>omega)|fail) only [↓yp,yA,ys0,ys1,seval,fitB,newC,endD,endR,yrg,st_alS_178,st_inS_178,st_ldS_178,st_ldS_173,st_ldS_176,st_ldS_174,st_faS_176_0,st_faS_176_1,st_faS_178_1,g1,g4,g5,g6,c4,c5,jb,ckb]
    refine A_upd (F := F) (s := ((r0, r1, r2, r3), kk)) (v := ((s0, s1, s2, s3), v)) (k := km) mapR (by simp (disch:=first|(simp only [yk,seval];done)|omega|(simp only [yz]<;>omega)|fail) only [↓yp,yA,ys0,ys1,seval,fitB,newC,endD,endR,yrg,st_alS_178,st_inS_178,st_ldS_178,st_ldS_173,st_ldS_176,st_ldS_174,st_faS_176_0,st_faS_176_1,st_faS_178_1,k5]) (by simp (disch:=first|(simp only [yk,seval];done)|omega|(simp only [yz]<;>omega)|fail) only [↓yp,yA,ys0,ys1,seval,fitB,newC,endD,endR,yrg,st_alS_178,st_inS_178,st_ldS_178,st_ldS_173,st_ldS_176,st_ldS_174,st_faS_176_0,st_faS_176_1,st_faS_178_1,k5]) (by simp (disch:=first|(simp only [yk,seval];done)|omega|(simp only [yz]<;>omega)|fail) only [↓yp,yA,ys0,ys1,seval,fitB,newC,endD,endR,yrg,st_alS_178,st_inS_178,st_ldS_178,st_ldS_173,st_ldS_176,st_ldS_174,st_faS_176_0,st_faS_176_1,st_faS_178_1,k5]) (by rw [get_put_ne (by omega)]; exact hM) hL.2 ?_
    intro blk2 hM2
    simp (disch:=first|(simp only [yk,seval];done)|omega|(simp only [yz]<;>omega)|fail) only [↓yp,yA,ys0,ys1,seval,fitB,newC,endD,endR,yrg,st_alS_178,st_inS_178,st_ldS_178,st_ldS_173,st_ldS_176,st_ldS_174,st_faS_176_0,st_faS_176_1,st_faS_178_1,g1,g4,g5,g6,c4,c5,jb,ckb]
    obtain ⟨H9, h9⟩ := atake_all [H6.size] (((H''.put (H6.size + 1) blk).put km blk2).put (H.size + 1) (.rw [.int .i64 s0, .int .i64 s1, .int .i64 s2, .int .i64 s3, .int .i64 v] 178 false [])) (by simp) fun k hk => by
     obtain rfl : k = H6.size := by simpa using hk
     rw [get_put_ne (by omega), get_put_ne (by omega), get_put_ne (by omega)]; exact hdf
    obtain ⟨a1, a2⟩ := atake_fr h9
    have a3 : ∀ i, i < H6.size → H9.get i = (((H''.put (H6.size + 1) blk).put km blk2).put (H.size + 1) (.rw [.int .i64 s0, .int .i64 s1, .int .i64 s2, .int .i64 s3, .int .i64 v] 178 false [])).get i := fun i hi => a2 i fun hm => by
     have : i = H6.size := by simpa using hm
     omega
    have g9 : H9.get (H.size + 1) = .rw [.int .i64 s0, .int .i64 s1, .int .i64 s2, .int .i64 s3, .int .i64 v] 178 false [] := by rw [a3 _ (by omega), get_put_same (by first|omega|(simp only [yz]<;>omega))]
    refine ⟨fun k hk => ?_, by (first | omega | (simp only [yz] <;> omega)), H9, h9, ?_⟩
    ·obtain rfl : k = H6.size := by simpa using hk
     omega
    refine ⟨k5 ((s0, s1, s2, s3), v), ?_, (s0, s1, s2, s3), v, rfl, T0.done, ⟨?_, fun i hi n1 n2 => ?_⟩, ?_, ?_⟩
    ·simp (disch:=first|(simp only [yk,seval];done)|omega|(simp only [yz]<;>omega)|fail) only [↓yp,yA,ys0,ys1,seval,fitB,newC,endD,endR,yrg,st_ldS_178,g5,g9,k5]
    ·simp only [size_put] at a1; omega
    ·rw [a3 i (by omega), get_put_ne (by omega), get_put_ne n2, get_put_ne (by omega), jf i (by omega) n1 n2 (by omega)]; exact fr6.same i hi
    ·rw [a3 mk (by omega), get_put_ne (by omega), get_put_ne X.ne, get_put_ne (by omega)]; exact J.br
    ·rw [a3 km (by omega), get_put_ne (by omega), get_put_same (by first|omega|(simp only [yz]<;>omega))]
     refine ⟨_, hM2, fun p hp => ?_⟩
     rcases fup_mem hp with hp | rfl
     ·exact hF p hp
     ·refine ⟨by show 0 ≤ kk; omega, ?_⟩
      show SaleOk _ _ kk.toNat _ _
      rw [show kk.toNat = k' + 1 by omega]
      exact T0.done
theorem c122 (hl : ps.length ≤ 4) (hpk : ∀ p ∈ ps, p.Ok) (hgl : gs.length ≤ 4) (hgk : ∀ g ∈ gs, g.Ok) (hL : L ≤ mk ∧ L ≤ km) : ∀ (k : Nat), k ≤ 50 → ∀ {M : Nat} {H : AHeap} {r : K4}, 4000 * k + 4000 ≤ M → (∀ n ∈ l4 r, 0 ≤ n ∧ n ≤ 6) → NX ps gs a a' cap cap' lots mk km kb wb fb H →
  resK (acall tabA (aexec tabA Try.prog M) 122 [k5 (r, (k : Int)), ptr kb, ptr wb, ptr fb] H) L fun b v H' => (b = true → H' = H) ∧ NxR ps gs mk km r k H v H'
 | 0, _, M, H, r, hM, hr, X => by
  obtain ⟨N, rfl⟩ : ∃ N, M = N + 4000 := ⟨M - 4000, by omega⟩
  exact c122s hl hpk hgl hgk 0 (by omega) hr X hL fun k' h => by omega
 | k + 1, hk, M, H, r, hM, hr, X => by
  obtain ⟨N, rfl⟩ : ∃ N, M = N + 4000 := ⟨M - 4000, by omega⟩
  exact c122s hl hpk hgl hgk (k + 1) hk hr X hL fun k' h M' H' r' hM' hr' X' => by
   obtain rfl : k = k' := by omega
   exact c122 hl hpk hgl hgk hL k (by omega) (by omega) hr' X'
end Go.Am.K
namespace Go.Am.K
open Go.Proofs
variable {T : Tab} {P : Program} {N L : Nat} {H H' H'' : AHeap} {Q : Bool → Value → AHeap → Prop}
variable {ps : List Pk} {gs : List Gd} {a a' : Option Addr} {cap cap' : Nat} {mk : Nat}
def k4E : Enc K4 := ⟨fun s => [.int .i64 s.1, .int .i64 s.2.1, .int .i64 s.2.2.1, .int .i64 s.2.2.2], 4, fun _ => rfl, fun _ => rfl⟩
theorem cl_map {k : Option Nat} : (Value.map k).cells.toList = [.map k] := rfl
theorem cl_func {f : Fn} {x y : Array Value} : (Value.func f x y).cells.toList = [.func f x y] := rfl
theorem one_mp {k : Option Nat} : oneCells [Value.map k] = true := rfl
theorem one_fn {f : Fn} {x y : Array Value} : oneCells [Value.func f x y] = true := rfl
theorem st_apS_152 : apS tabA 152 = some (119, 4, 32) := by kernel_rfl
def fl178a (v : Value) (H : AHeap) (L : Nat) (Q : Bool → Value → AHeap → Prop) (_ : Tag Q := .mk) : Prop := match still (aField tabA (fun _ => some v) H 178 (.tmp 0) 0) with
 | some (b, v, H', m) => L ≤ m ∧ Q b v H'
 | none => False
theorem A_fld178a {ex : Exec} {t : Operand → Option Value} {x : Operand} : A tabA Try.prog ex t H L (.field 178 x 0) Q = optK (t x) fun v => fl178a v H L Q := by
 unfold A
 show (match still (aField tabA t H 178 x 0) with
  | some (b, v, H', m) => L ≤ m ∧ Q b v H'
  | none => False) = _
 cases hs : t x with
 | none =>
  have : aField tabA t H 178 x 0 = none := by unfold aField; rw [hs]
  rw [this]; rfl
 | some v =>
  have : aField tabA t H 178 x 0 = aField tabA (fun _ => some v) H 178 (.tmp 0) 0 := by unfold aField; rw [hs]
  rw [this]; rfl
theorem fl178a_of {s0 s1 s2 s3 w : Int} : fl178a (.agg ⟨[.int .i64 s0, .int .i64 s1, .int .i64 s2, .int .i64 s3, .int .i64 w]⟩) H L Q = andK (L ≤ H.size) (Q true (.agg ⟨[.int .i64 s0, .int .i64 s1, .int .i64 s2, .int .i64 s3]⟩) H) := by
 have : aField tabA (fun _ => some (.agg ⟨[.int .i64 s0, .int .i64 s1, .int .i64 s2, .int .i64 s3, .int .i64 w]⟩)) H 178 (.tmp 0) 0 = some (.agg ⟨[.int .i64 s0, .int .i64 s1, .int .i64 s2, .int .i64 s3]⟩, H, H.size) := by kernel_rfl
 unfold fl178a
 rw [this]; rfl
theorem NX.keep {lots : Int} {km kb wb fb : Nat} (h : NX ps gs a a' cap cap' lots mk km kb wb fb H) (hz : H.size ≤ H'.size) (r1 : Rw pkE H' a ps) (r2 : Rw gdE H' a' gs) (hw : H'.get wb = H.get wb) (hk : H'.get kb = H.get kb) (hf : H'.get fb = H.get fb) (hm : H'.get mk = H.get mk) (hn : H'.get km = H.get km) : NX ps gs a a' cap cap' lots mk km kb wb fb H' := by
 obtain ⟨l1, l2, l3, l4, l5⟩ := h.lt
 exact ⟨r1, r2, by rw [hw]; exact h.w, by rw [hk]; exact h.kv, by rw [hf]; exact h.fv, by rw [hm]; exact h.br, by rw [hn]; exact h.kn, ⟨by omega, by omega, by omega, by omega, by omega⟩, h.ne⟩
theorem Pl_len : ∀ {M : List (List Int)} {r : List Int} {k : Nat}, Pl r k M → M.length ≤ k
 | [], _, _, _ => Nat.zero_le _
 | _ :: M, _, k, h => by
  match k, h with
  | k + 1, h => have := Pl_len h.2; rw [List.length_cons]; omega
  | 0, h => exact h.elim
theorem totL_append {b : List Int → Int} : ∀ {x y : List (List Int)}, totL b (x ++ y) = totL b x + totL b y
 | [], y => by show totL b y = 0 + totL b y; omega
 | l :: x, y => by
  show b l + totL b (x ++ y) = b l + totL b x + totL b y
  rw [totL_append]; omega
def BeR (ps : List Pk) (gs : List Gd) (mk k : Nat) (H : AHeap) (v : Value) (H' : AHeap) : Prop := ∃ (Ls : List K4) (pa : Option Addr) (c : Nat) (n : Int), v = .tuple ⟨[.slice pa Ls.length c, .int .i64 n]⟩ ∧ Rw k4E H' pa Ls ∧ (Ls ≠ [] → ∃ b, pa = some b) ∧ Pl (stk ps) k (Ls.map l4) ∧ totL (brg ps gs) (Ls.map l4) = n ∧ OptR (brg ps gs) (stk ps) k n ∧ H.size ≤ H'.size ∧ (∀ i, i < H.size → i ≠ mk → H'.get i = H.get i) ∧ BrI ps gs (H'.get mk)
set_option maxHeartbeats 4000000 in
set_option maxRecDepth 10000 in
theorem c97 (hs : Rw pkE H a ps) (hg : Rw gdE H a' gs) (hl : ps.length ≤ 4) (hpk : ∀ p ∈ ps, p.Ok) (hgl : gs.length ≤ 4) (hgk : ∀ g ∈ gs, g.Ok) (k : Nat) (hk : k ≤ 3) (hmk : mk < H.size) (hbr : BrI ps gs (H.get mk)) (hL : L ≤ mk) :
  resK (acall tabA (aexec tabA Try.prog (N + 18000)) 97 [.agg ⟨[.slice a ps.length cap, .slice a' gs.length cap', .int .i64 (k : Int), .map (some mk)]⟩] H) L fun b v H' => (b = true → H' = H) ∧ BeR ps gs mk k H v H' := by
 refine call_keep tabA_fr (R := BeR ps gs mk k H) (k := 38) (rs := [.tmp 2, .tmp 3]) rfl fn_97 rfl rfl rfl (by omega) ?_ (fun v H' h => ⟨fun h => (by cases h), h⟩) ?_
 rotate_left
 ·rintro v H' ⟨Ls, pa, c, n, rfl, h1, h2, h3, h4, h5, h6, h7, h8⟩ hgr fr
  refine ⟨fun _ => rfl, Ls, pa, c, n, rfl, ?_, h2, h3, h4, h5, Nat.le_refl _, fun _ _ _ => rfl, hbr⟩
  by_cases hn : Ls = []
  ·subst hn; exact Rw.nil
  ·obtain ⟨b, rfl⟩ := h2 hn
   cases hgr
 have hin := stk_in hpk
 have h102 := fun (N : Nat) (H' : AHeap) (f : Fr H H') => c102 (N := N) (cap := cap) (g := .slice a' gs.length cap') (lo := .int .i64 (k : Int)) (mp := .map (some mk)) (hs.fr f) hl
 obtain ⟨m0, m1, m2, m3, hm⟩ := four (stk_len hl)
 rw [hm] at h102
 simp only [tv,List.map_cons,List.map_nil] at h102
 obtain ⟨kk, hkk⟩ : ∃ kk : Int, (k : Int) = kk := ⟨_, rfl⟩
 rw [hkk] at h102 ⊢
 simp (disch:=first|(simp only [yk,seval];done)|omega|(simp only [yz]<;>omega)|fail) only [↓yp,yA,ys0,ys1,seval,fitB,newC,endD,endR,yrg,A_mkMap,cl_map,cl_func,one_mp,one_fn,st_alS_178,st_inS_178,st_ldS_178,st_ldS_173,st_ldS_176,st_ldS_174,st_faS_176_0,st_faS_176_1,st_faS_178_1,st_alS_173,st_alS_174,st_inS_173,st_inS_174,st_alS_176,st_inS_176]
 refine W_gen (fun e5 H5 => gt 38 e5 1 = .pointer (some ⟨H.size, 0, none⟩) ∧ gt 38 e5 2 = .slice none 0 0 ∧ gt 38 e5 5 = .pointer (some ⟨H.size + 1 + 1 + 1, 0, none⟩) ∧ Fr H H5 ∧ H5.size = H.size + 4 ∧ H5.get H.size = .rw [.slice a ps.length cap, .slice a' gs.length cap', .int .i64 kk, .map (some mk)] 124 false [] ∧ H5.get (H.size + 1) = .map [] 0 ∧ H5.get (H.size + 1 + 1) = .rw [.map (some (H.size + 1))] 173 false [] ∧ H5.get (H.size + 1 + 1 + 1) = .rw [.func (.func 122) ⟨[]⟩ ⟨[.pointer (some ⟨H.size + 1 + 1, 0, none⟩), .pointer (some ⟨H.size, 0, none⟩), .pointer (some ⟨H.size + 1 + 1 + 1, 0, none⟩)]⟩] 174 false []) ⟨?_, ?_, ?_, ?_, ?_, ?_, ?_, ?_, ?_⟩ ?_
 ·simp (disch:=first|(simp only [yk,seval];done)|omega|(simp only [yz]<;>omega)|fail) only [yg,seval]
 ·simp (disch:=first|(simp only [yk,seval];done)|omega|(simp only [yz]<;>omega)|fail) only [yg,seval]
 ·simp (disch:=first|(simp only [yk,seval];done)|omega|(simp only [yz]<;>omega)|fail) only [yg,seval]
 ·(repeat (first | exact Fr.refl _ | assumption | refine Fr.allocd ?_ _ | refine Fr.put ?_ (by first | omega | (simp only [yz] <;> omega)) _))
 ·(first | omega | (simp only [yz] <;> omega))
 ·simp (disch:=first|(simp only [yk,seval];done)|omega|(simp only [yz]<;>omega)|fail) only [yg,seval]
 ·simp (disch:=first|(simp only [yk,seval];done)|omega|(simp only [yz]<;>omega)|fail) only [yg,seval]
 ·simp (disch:=first|(simp only [yk,seval];done)|omega|(simp only [yz]<;>omega)|fail) only [yg,seval]
 ·simp (disch:=first|(simp only [yk,seval];done)|omega|(simp only [yz]<;>omega)|fail) only [yg,seval]
 rintro e5 H5 ⟨g1, g2, g5, fr5, sz5, b1, b2, b3, b4⟩
 have h102a := fun (N : Nat) => h102 N H5 fr5
 have h102b := fun (N : Nat) (blk : ABlk) => h102 N (H5.alloc blk) (Fr.allocd fr5 _)
 have h102c := fun (N : Nat) (blk blk' : ABlk) => h102 N ((H5.alloc blk).put H5.size blk') (Fr.put (Fr.allocd fr5 _) (by omega) _)
 clear h102
 refine W_draw [6, 7] rfl (by kernel_rfl) (by kernel_rfl) (by first|omega|(simp only [yz]<;>omega)) ?_
 simp (disch:=first|(simp only [yk,seval];done)|omega|(simp only [yz]<;>omega)|fail) only [↓yp,yA,ys0,ys1,seval,fitB,newC,endD,endR,yrg,A_mkMap,cl_map,cl_func,one_mp,one_fn,st_alS_178,st_inS_178,st_ldS_178,st_ldS_173,st_ldS_176,st_ldS_174,st_faS_176_0,st_faS_176_1,st_faS_178_1,st_alS_173,st_alS_174,st_inS_173,st_inS_174,st_alS_176,st_inS_176,A_build st_bdS_176,g1,g5,b1,b4,sv_map,h102a,h102b,h102c]
 subst hkk
 have fr6 : Fr H ((H5.alloc (.rw [.int .i64 0, .int .i64 0, .int .i64 0, .int .i64 0, .int .i64 0] 176 false [])).put H5.size (.rw [.int .i64 m0, .int .i64 m1, .int .i64 m2, .int .i64 m3, .int .i64 (k : Int)] 176 false [])) := Fr.put (Fr.allocd fr5 _) (by omega) _
 have X6 : NX ps gs a a' cap cap' (k : Int) mk (H.size + 1) (H.size + 1 + 1) H.size (H.size + 1 + 1 + 1) ((H5.alloc (.rw [.int .i64 0, .int .i64 0, .int .i64 0, .int .i64 0, .int .i64 0] 176 false [])).put H5.size (.rw [.int .i64 m0, .int .i64 m1, .int .i64 m2, .int .i64 m3, .int .i64 (k : Int)] 176 false [])) := by
  refine ⟨hs.fr fr6, hg.fr fr6, ?_, ?_, ?_, by rw [fr6.same mk hmk]; exact hbr, ?_, ?_, by omega⟩
  ·rw [get_put_ne (by omega), get_alloc_lt (by omega)]; exact b1
  ·rw [get_put_ne (by omega), get_alloc_lt (by omega)]; exact b3
  ·rw [get_put_ne (by omega), get_alloc_lt (by omega)]; exact b4
  ·rw [get_put_ne (by omega), get_alloc_lt (by omega), b2]; exact KnI.nil
  ·simp only [size_put,size_alloc]; omega
 have hr6 : ∀ n ∈ l4 (m0, m1, m2, m3), 0 ≤ n ∧ n ≤ 6 := by rw [hm] at hin; exact hin
 refine resK_mono (c122 (M := N + 17993) (r := (m0, m1, m2, m3)) hl hpk hgl hgk ⟨hL, by omega⟩ k (by omega) (by omega) hr6 X6) ?_
 rintro b _ H7 ⟨-, ⟨s0, s1, s2, s3⟩, n, rfl, hS0, sm7, br7, kn7⟩
 have z7 := sm7.sz
 simp only [size_put,size_alloc] at z7
 have X7 := X6.sm sm7 br7 kn7
 have q6 : H7.get H5.size = .rw [.int .i64 m0, .int .i64 m1, .int .i64 m2, .int .i64 m3, .int .i64 (k : Int)] 176 false [] := by
  rw [sm7.same _ (by simp only [size_put,size_alloc]; omega) (by omega) (by omega), get_put_same (by first|omega|(simp only [yz]<;>omega))]
 simp only [k5]
 simp (disch:=first|(simp only [yk,seval];done)|omega|(simp only [yz]<;>omega)|fail) only [↓yp,yA,ys0,ys1,seval,fitB,newC,endD,endR,yrg,A_mkMap,cl_map,cl_func,one_mp,one_fn,st_alS_178,st_inS_178,st_ldS_178,st_ldS_173,st_ldS_176,st_ldS_174,st_faS_176_0,st_faS_176_1,st_faS_178_1,st_alS_173,st_alS_174,st_inS_173,st_inS_174,st_alS_176,st_inS_176,A_build st_bdS_176,A_fld178,fl178_of]
 refine W_while (n := 38) 17000 (fun q e' Hx => ∃ (r0 r1 r2 r3 : Int) (Ls : List K4) (v : Value) (S : Nat → Prop) (w : Int), gt 38 e' 5 = .pointer (some ⟨H.size + 1 + 1 + 1, 0, none⟩) ∧ gt 38 e' 6 = .pointer (some ⟨H5.size, 0, none⟩) ∧ gt 38 e' 2 = v ∧ gt 38 e' 3 = .int .i64 n ∧ NX ps gs a a' cap cap' (k : Int) mk (H.size + 1) (H.size + 1 + 1) H.size (H.size + 1 + 1 + 1) Hx ∧ Hx.get H5.size = .rw [.int .i64 r0, .int .i64 r1, .int .i64 r2, .int .i64 r3, .int .i64 (q : Int)] 176 false [] ∧ H5.size + 1 ≤ Hx.size ∧ (∀ i, i < H.size → i ≠ mk → Hx.get i = H.get i) ∧ Gw Hx H5.size S v Ls.length (k4E.fl Ls) 119 4 ∧ (∀ n ∈ [r0, r1, r2, r3], 0 ≤ n ∧ n ≤ 6) ∧ OptR (brg ps gs) [r0, r1, r2, r3] q w ∧ totL (brg ps gs) (Ls.map l4) + w = n ∧ (∀ M, Pl [r0, r1, r2, r3] q M → Pl (stk ps) k (Ls.map l4 ++ M)) ∧ q ≤ 3)
  ?_ 3 k ⟨m0, m1, m2, m3, [], .slice none 0 0, fun _ => False, n, ?_, ?_, ?_, ?_, X7, q6, by omega, ?_, Gw.none, hr6, hS0.opt, by show 0 + n = n; omega, fun M h => by rw [hm]; exact h, hk⟩ hk (by omega)
 rotate_left
 ·simp (disch:=first|(simp only [yk,seval];done)|omega|(simp only [yz]<;>omega)|fail) only [yg,seval,g5]
 ·simp (disch:=first|(simp only [yk,seval];done)|omega|(simp only [yz]<;>omega)|fail) only [yg,seval]
 ·simp (disch:=first|(simp only [yk,seval];done)|omega|(simp only [yz]<;>omega)|fail) only [yg,seval,g2]
 ·simp (disch:=first|(simp only [yk,seval];done)|omega|(simp only [yz]<;>omega)|fail) only [yg,seval]
 ·intro i hi n1
  rw [sm7.same i (by simp only [size_put,size_alloc]; omega) n1 (by omega)]
  exact fr6.same i hi
 rintro M1 q e Hx ⟨r0, r1, r2, r3, Ls, v, S, w, g5, g6, g2, g3, Xx, b6, szx, smx, gw, hr, hO, hT, hP, hq3⟩
 have fvx := Xx.fv
 simp only [ptr] at fvx
 simp (disch:=first|(simp only [yk,seval];done)|omega|(simp only [yz]<;>omega)|fail) only [↓yp,yA,ys0,ys1,seval,fitB,newC,endD,endR,yrg,A_mkMap,cl_map,cl_func,one_mp,one_fn,st_alS_178,st_inS_178,st_ldS_178,st_ldS_173,st_ldS_176,st_ldS_174,st_faS_176_0,st_faS_176_1,st_faS_178_1,st_alS_173,st_alS_174,st_inS_173,st_inS_174,st_alS_176,st_inS_176,A_build st_bdS_176,A_fld178,fl178_of,g5,g6,g2,g3,b6,fvx]
 refine resK_mono (c122 (M := M1 + 16997) (r := (r0, r1, r2, r3)) hl hpk hgl hgk ⟨hL, by omega⟩ q (by omega) (by omega) hr Xx) ?_
 rintro b _ H8 ⟨-, ⟨s0, s1, s2, s3⟩, n8, rfl, hS, sm8, br8, kn8⟩
 have z8 := sm8.sz
 have X8 := Xx.sm sm8 br8 kn8
 have b68 := (sm8.same _ (by omega) (by omega) (by omega)).trans b6
 have gw8 := gw.same z8 fun j hj => by have := gw.own j hj; exact sm8.same j this.2 (by omega) (by omega)
 have sm8' : ∀ i, i < H.size → i ≠ mk → H8.get i = H.get i := fun i hi n1 => by rw [sm8.same i (by omega) n1 (by omega)]; exact smx i hi n1
 obtain rfl : n8 = w := hS.opt.uniq hO
 have hnn := hO.nn
 have fv8 := X8.fv
 simp only [ptr] at fv8
 simp only [k5]
 simp (disch:=first|(simp only [yk,seval];done)|omega|(simp only [yz]<;>omega)|fail) only [↓yp,yA,ys0,ys1,seval,fitB,newC,endD,endR,yrg,A_mkMap,cl_map,cl_func,one_mp,one_fn,st_alS_178,st_inS_178,st_ldS_178,st_ldS_173,st_ldS_176,st_ldS_174,st_faS_176_0,st_faS_176_1,st_faS_178_1,st_alS_173,st_alS_174,st_inS_173,st_inS_174,st_alS_176,st_inS_176,A_build st_bdS_176,A_fld178,fl178_of,A_fld178a,fl178a_of,g5,g6,g2,g3,b68,fv8]
 refine ⟨fun hT' => ?_, fun hT' => ?_⟩
 rotate_left
 ·have hw0 : n8 = 0 := by have := of_decide_eq_false hT'; omega
  simp (disch:=first|(simp only [yk,seval];done)|omega|(simp only [yz]<;>omega)|fail) only [↓yp,yA,ys0,ys1,seval,fitB,newC,endD,endR,yrg,A_mkMap,cl_map,cl_func,one_mp,one_fn,st_alS_178,st_inS_178,st_ldS_178,st_ldS_173,st_ldS_176,st_ldS_174,st_faS_176_0,st_faS_176_1,st_faS_178_1,st_alS_173,st_alS_174,st_inS_173,st_inS_174,st_alS_176,st_inS_176,A_build st_bdS_176,g5,g6,g2,g3]
  have hPl : Pl (stk ps) k (Ls.map l4) := by
   have := hP [] (by cases q <;> trivial)
   rwa [List.append_nil] at this
  by_cases hn : Ls = []
  ·subst hn
   have hv := gw8.nil rfl
   subst hv
   exact ⟨[], none, 0, n, rfl, Rw.nil, fun h => absurd rfl h, hPl, by omega, by rw [hm]; exact hS0.opt, by omega, sm8', X8.br⟩
  ·obtain ⟨b', al, rfl, hb1, hb2, -⟩ := gw8.cons (by simpa using hn)
   exact ⟨Ls, _, _, n, rfl, Rw.of (r := []) (gw8.own _ hb1).2 (by rw [hb2]; rfl) (by rw [List.append_nil]), fun _ => ⟨_, rfl⟩, hPl, by omega, by rw [hm]; exact hS0.opt, by omega, sm8', X8.br⟩
 have hw0 : 0 < n8 := of_decide_eq_true hT'
 simp (disch:=first|(simp only [yk,seval];done)|omega|(simp only [yz]<;>omega)|fail) only [↓yp,yA,ys0,ys1,seval,fitB,newC,endD,endR,yrg,A_mkMap,cl_map,cl_func,one_mp,one_fn,st_alS_178,st_inS_178,st_ldS_178,st_ldS_173,st_ldS_176,st_ldS_174,st_faS_176_0,st_faS_176_1,st_faS_178_1,st_alS_173,st_alS_174,st_inS_173,st_inS_174,st_alS_176,st_inS_176,A_build st_bdS_176,A_fld178,fl178_of,A_fld178a,fl178a_of,g5,g6,g2,g3,b68,fv8]
 refine resK_mono (c122 (M := M1 + 16996) (r := (r0, r1, r2, r3)) hl hpk hgl hgk ⟨hL, by omega⟩ q (by omega) (by omega) hr X8) ?_
 rintro b2 _ H9 ⟨-, ⟨t0, t1, t2, t3⟩, n9, rfl, hS9, sm9, br9, kn9⟩
 have z9 := sm9.sz
 have X9 := X8.sm sm9 br9 kn9
 have b69 := (sm9.same _ (by omega) (by omega) (by omega)).trans b68
 have gw9 := gw8.same z9 fun j hj => by have := gw8.own j hj; exact sm9.same j this.2 (by omega) (by omega)
 have sm9' : ∀ i, i < H.size → i ≠ mk → H9.get i = H.get i := fun i hi n1 => by rw [sm9.same i (by omega) n1 (by omega)]; exact sm8' i hi n1
 have e9 : n9 = n8 := hS9.opt.uniq hO
 obtain ⟨hv9, w2, ho2, he2⟩ := hS9.pos (by omega)
 have hv9' : LV [r0, r1, r2, r3] [t0, t1, t2, t3] := hv9
 have hq1 : 1 ≤ q := by
  cases q with
  | zero => exact absurd (hO.uniq OptR.zero) (by omega)
  | succ q' => omega
 have ht6 := LV_in hv9' fun n hn => (hr n hn).2
 have h124 := fun (N : Nat) (H : AHeap) => c124 (N := N) (H := H) (r0 := r0) (r1 := r1) (r2 := r2) (r3 := r3) (l0 := t0) (l1 := t1) (l2 := t2) (l3 := t3) (k := (q : Int)) (by have := hr r0 (by simp); omega) (by have := hr r1 (by simp); omega) (by have := hr r2 (by simp); omega) (by have := hr r3 (by simp); omega) (by have := ht6 t0 (by simp); omega) (by have := ht6 t1 (by simp); omega) (by have := ht6 t2 (by simp); omega) (by have := ht6 t3 (by simp); omega) (by omega)
 have hk1 : (q : Int) - 1 = ((q - 1 : Nat) : Int) := by omega
 simp only [hk1] at h124
 simp only [k5]
 simp (disch:=first|(simp only [yk,seval];done)|omega|(simp only [yz]<;>omega)|fail) only [↓yp,yA,ys0,ys1,seval,fitB,newC,endD,endR,yrg,A_mkMap,cl_map,cl_func,one_mp,one_fn,st_alS_178,st_inS_178,st_ldS_178,st_ldS_173,st_ldS_176,st_ldS_174,st_faS_176_0,st_faS_176_1,st_faS_178_1,st_alS_173,st_alS_174,st_inS_173,st_inS_174,st_alS_176,st_inS_176,A_build st_bdS_176,A_fld178,fl178_of,A_fld178a,fl178a_of,A_buildSlice st_brS_152_1,g5,g6,g2,g3,b69,h124]
 have hlen : Ls.length ≤ 3 := by
  have := Pl_len (hP [] (by cases q <;> trivial))
  rw [List.append_nil, List.length_map] at this
  omega
 refine gw_append (i := Ls.length) (cs := k4E.fl Ls) (news := [.int .i64 t0, .int .i64 t1, .int .i64 t2, .int .i64 t3]) st_apS_152 (gw9.fr (by repeat first|exact Fr.refl _|assumption|refine Fr.allocd ?_ _|refine Fr.put ?_ (by first|omega|(simp only [yz]<;>omega)) _)) (by first|omega|(simp only [yz]<;>omega)) (by rw [fl_length]; rfl) (by unfold srcCells; simp (disch:=first|(simp only [yk,seval];done)|omega|(simp only [yz]<;>omega)|fail) only [yg,seval] <;> rfl) (by omega) (by omega) rfl (by omega) ?_
 intro a1 c1 H10 hs10 fs10 gw10
 simp only [size_alloc,size_put] at hs10 fs10 gw10
 have old10 : ∀ i, i < H9.size → ¬ S i → H10.get i = H9.get i := fun i h1 h2 => by rw [fs10 i (by omega) h2, get_alloc_lt (by simp only [size_put,size_alloc]; omega), get_put_ne (by omega), get_alloc_lt h1]
 have low : ∀ j, j ≤ H5.size → ¬ S j := fun j hj h => by have := (gw9.own j h).1; omega
 have b610 := (old10 _ (by omega) (low _ (Nat.le_refl _))).trans b69
 have lot10 : H10.get H9.size = .rw [.int .i64 t0, .int .i64 t1, .int .i64 t2, .int .i64 t3] 119 false [] := by
  rw [fs10 _ (by omega) (fun h => by have := (gw9.own _ h).2; omega), get_alloc_lt (by simp only [size_put,size_alloc]; omega), get_put_same (by first|omega|(simp only [yz]<;>omega))]
 simp (disch:=first|(simp only [yk,seval];done)|omega|(simp only [yz]<;>omega)|fail) only [↓yp,yA,ys0,ys1,seval,fitB,newC,endD,endR,yrg,A_mkMap,cl_map,cl_func,one_mp,one_fn,st_alS_178,st_inS_178,st_ldS_178,st_ldS_173,st_ldS_176,st_ldS_174,st_faS_176_0,st_faS_176_1,st_faS_178_1,st_alS_173,st_alS_174,st_inS_173,st_inS_174,st_alS_176,st_inS_176,A_build st_bdS_176,A_fld178,fl178_of,A_fld178a,fl178a_of,A_buildSlice st_brS_152_1,g5,g6,g2,g3,b610,lot10,h124]
 have X10 : NX ps gs a a' cap cap' (k : Int) mk (H.size + 1) (H.size + 1 + 1) H.size (H.size + 1 + 1 + 1) (H10.put H5.size (.rw [.int .i64 (r0 - t0), .int .i64 (r1 - t1), .int .i64 (r2 - t2), .int .i64 (r3 - t3), .int .i64 ((q - 1 : Nat) : Int)] 176 false [])) := by
  have hold : ∀ i, i < H5.size → (H10.put H5.size (.rw [.int .i64 (r0 - t0), .int .i64 (r1 - t1), .int .i64 (r2 - t2), .int .i64 (r3 - t3), .int .i64 ((q - 1 : Nat) : Int)] 176 false [])).get i = H9.get i := fun i hi => by rw [get_put_ne (by omega), old10 i (by omega) (low i (by omega))]
  have hrow : ∀ i, i < H.size → i ≠ mk → i ≠ mk → (H10.put H5.size (.rw [.int .i64 (r0 - t0), .int .i64 (r1 - t1), .int .i64 (r2 - t2), .int .i64 (r3 - t3), .int .i64 ((q - 1 : Nat) : Int)] 176 false [])).get i = H.get i := fun i hi n1 _ => by rw [hold i (by omega)]; exact sm9' i hi n1
  exact X9.keep (by rw [size_put]; omega) (rw_sm hs (by rw [size_put]; omega) hrow hbr.map hbr.map) (rw_sm hg (by rw [size_put]; omega) hrow hbr.map hbr.map) (hold _ (by omega)) (hold _ (by omega)) (hold _ (by omega)) (hold _ (by omega)) (hold _ (by omega))
 have hfl : k4E.fl Ls ++ [.int .i64 t0, .int .i64 t1, .int .i64 t2, .int .i64 t3] = k4E.fl (Ls ++ [(t0, t1, t2, t3)]) := by rw [fl_app]; rfl
 have hsb := sb_in (r := [r0, r1, r2, r3]) hr hv9'
 refine ⟨q - 1, by omega, r0 - t0, r1 - t1, r2 - t2, r3 - t3, Ls ++ [(t0, t1, t2, t3)], .slice a1 (Ls.length + 1) c1, fun j => S j ∨ j = H9.size + 1 + 1, w2, ?_, ?_, ?_, ?_, X10, get_put_same (by omega), by rw [size_put]; omega, ?_, ?_, hsb, ho2, ?_, ?_, by omega⟩
 ·simp (disch:=first|(simp only [yk,seval];done)|omega|(simp only [yz]<;>omega)|fail) only [yg,seval,g5]
 ·simp (disch:=first|(simp only [yk,seval];done)|omega|(simp only [yz]<;>omega)|fail) only [yg,seval,g6]
 ·simp (disch:=first|(simp only [yk,seval];done)|omega|(simp only [yz]<;>omega)|fail) only [yg,seval]
 ·simp (disch:=first|(simp only [yk,seval];done)|omega|(simp only [yz]<;>omega)|fail) only [yg,seval,g3]
 ·intro i hi n1
  rw [get_put_ne (by omega), old10 i (by omega) (low i (by omega))]
  exact sm9' i hi n1
 ·rw [← hfl, List.length_append]
  exact Gw.put gw10 (fun h => by
   rcases h with h | h
   ·exact low _ (Nat.le_refl _) h
   ·omega) _
 ·rw [List.map_append, totL_append]
  show totL (brg ps gs) (Ls.map l4) + (brg ps gs (l4 (t0, t1, t2, t3)) + 0) + w2 = n
  omega
 ·intro M hM
  rw [List.map_append, List.append_assoc]
  refine hP _ ?_
  obtain ⟨q', rfl⟩ : ∃ q', q = q' + 1 := ⟨q - 1, by omega⟩
  exact ⟨hv9', hM⟩
end Go.Am.K
