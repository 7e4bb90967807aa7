import Derived.Test.YtaieoelbpnjoiaaT48
import Derived.Test.YtaieoelbpnjoiaaT46
set_option linter.unusedSimpArgs false
set_option linter.unusedVariables false
namespace Go.Am
open Go.Proofs
variable {T : Tab} {P : Program} {N L : Nat} {H : AHeap} {Q : Bool → Value → AHeap → Prop}
theorem subU {x y : Operand} : ∀ {n : Nat}, n ≤ 6 → binV tabA Try.prog .sub 142 x y (.int .u64 ((2 ^ n : Nat) : Int)) (.int .u64 1) = some (.int .u64 ((2 ^ n - 1 : Nat) : Int))
  | 0, _ => rfl
  | 1, _ => rfl
  | 2, _ => rfl
  | 3, _ => rfl
  | 4, _ => rfl
  | 5, _ => rfl
  | 6, _ => rfl
  | n + 7, h => by omega
section
variable {l : List Str} {C w ld fr : Int} {a sa : Option Addr} {cap sc : Nat} {tt : List Int}
theorem dnT_lt {d : Int} {i : Nat} (ht : tt.length ≤ 6) (hd : d.toNat < 2 ^ tt.length) : (dnT tt d i).toNat < 2 ^ tt.length ∧ 0 ≤ dnT tt d i := by
  unfold dnT
  rw [Int.toNat_natCast]
  exact ⟨Nat.or_lt_two_pow hd (bitN_lt ht), by omega⟩
theorem stT (g : Good C l ld) (hf : 0 ≤ fr ∧ fr ≤ 7) (ht : tt.length ≤ 6) : StS l (nxt (dnT tt)) (fr, 0) (corT tt.length) :=
  ⟨corT_iff.2 ⟨hf, Int.le_refl _, Nat.two_pow_pos _⟩, fun s hs i r b hi hn => corT_iff.2 (by
    have hg := g.st r (List.mem_of_getElem? hi)
    have hC := g.hC
    have h2 := (corT_iff.1 hs).2
    have h3 := dnT_lt (i := i) ht h2.2
    refine ⟨?_, h3.2, h3.1⟩
    unfold nxt farL
    cases b <;> simp only [cond_true,cond_false] <;> omega)⟩
theorem exCT (hs : Sl H a l) (hi : Il H sa tt) (ht : tt.length ≤ 6) (g : Good C l ld) (hl : l.length ≤ 18) : ExC H l C w ld a cap (.slice sa tt.length sc) (fun i => ((bitN tt i : Nat) : Int)) (dnT tt) (corT tt.length) :=
  ⟨hs, g, hl, fun N H'' i f _ => c132 (N := N) (hi.fr f) ht, fun s hs i x y _ => by
    have h2 := (corT_iff.1 hs).2
    have h3 := bitN_lt (t := tt) (x := (i : Int)) ht
    have h4 : 2 ^ tt.length ≤ 2 ^ 6 := Nat.pow_le_pow_right (by omega) ht
    obtain ⟨d, hd⟩ : ∃ d : Nat, s.2 = d := ⟨s.2.toNat, by omega⟩
    rw [hd, Int.toNat_natCast] at h2
    rw [hd, u64_or, orU_nat (by omega) (by omega)]
    unfold dnT
    rw [Int.toNat_natCast], corT_len ht, rfl, by simp [sameV]⟩
end
section
variable {l : List Str} {C w ld fr at₀ to : Int} {a sa : Option Addr} {cap sc : Nat} {tt : List Int}
set_option maxHeartbeats 4000000 in
theorem c92v {sv : Value} (hX : ∀ H', Fr H H' → ExC H' l C w ld a cap sv (fun i => ((bitN tt i : Nat) : Int)) (dnT tt) (corT tt.length)) (hln : ∀ H' : AHeap, lenV tabA H' 52 sv = some (.int .i64 (tt.length : Nat))) (ht : tt.length ≤ 6) (g : Good C l ld) (hl : l.length ≤ 18) (h0 : 0 ≤ at₀ ∧ at₀ ≤ 240) (hf : 0 ≤ fr ∧ fr ≤ 7) (hL : L ≤ H.size) {M : Nat} (hM : 20000 ≤ M)
    (hn : ∀ H', Fr H H' → (∀ m, ¬ CanS l w ld (nxt (dnT tt)) (fr, 0) at₀ m (to, ((2 ^ tt.length - 1 : Nat) : Int))) → ∀ q, Q q (.tuple ⟨[.slice none 0 0, .int .i64 0, .int .i64 1]⟩) H')
    (hq : ∀ q v ls H' m, Fr H H' → RowL H' v ls H.size → Run l w ld (nxt (dnT tt)) (fr, 0) at₀ ls (to, ((2 ^ tt.length - 1 : Nat) : Int)) m → ls.length ≤ 55 → CanS l w ld (nxt (dnT tt)) (fr, 0) at₀ m (to, ((2 ^ tt.length - 1 : Nat) : Int)) → (∀ m', CanS l w ld (nxt (dnT tt)) (fr, 0) at₀ m' (to, ((2 ^ tt.length - 1 : Nat) : Int)) → m ≤ m') → Q q (.tuple ⟨[v, .int .i64 m, .int .i64 0]⟩) H') :
    resK (acall tabA (aexec tabA Try.prog M) 92 [jobG C a l.length cap w ld (-1), .int .i64 fr, .int .i64 at₀, sv, .int .i64 to] H) L Q := by
  obtain ⟨N, rfl⟩ : ∃ N, M = N + 20000 := ⟨M - 20000, by omega⟩
  have hS : StS l (nxt (dnT tt)) (fr, 0) (corT tt.length) := stT (tt := tt) g hf ht
  have hfull : 2 ^ tt.length - 1 < 2 ^ tt.length := by have := Nat.two_pow_pos tt.length; omega
  have I := exTo_ok (w := w) g hS h0 241
  refine call_some (R := fun v H' => Fr H H' ∧ ((v = .tuple ⟨[.slice none 0 0, .int .i64 0, .int .i64 1]⟩ ∧ ∀ m, ¬ CanS l w ld (nxt (dnT tt)) (fr, 0) at₀ m (to, ((2 ^ tt.length - 1 : Nat) : Int))) ∨
      ∃ u ls m, v = .tuple ⟨[u, .int .i64 m, .int .i64 0]⟩ ∧ RowL H' u ls H.size ∧ Run l w ld (nxt (dnT tt)) (fr, 0) at₀ ls (to, ((2 ^ tt.length - 1 : Nat) : Int)) m ∧ ls.length ≤ 55 ∧ CanS l w ld (nxt (dnT tt)) (fr, 0) at₀ m (to, ((2 ^ tt.length - 1 : Nat) : Int)) ∧ (∀ m', CanS l w ld (nxt (dnT tt)) (fr, 0) at₀ m' (to, ((2 ^ tt.length - 1 : Nat) : Int)) → m ≤ m')))
    (k := 43) (rs := [.tmp 10, .tmp 11, .tmp 12]) rfl fn_92 rfl rfl rfl hL ?_ ?_ ?_
  · simp (disch := (first | (simp only [yk,seval]; done) | omega | (simp only [yz] <;> omega) | fail)) only [↓yp,yq0,yq1,yq2,yq3,yq4,yl,ys0,ys1,seval,zed,zee,zfr,zhw,ysu,yrg,ysv,ysw,ysx,ysz,ysa,jobG]
    have f1 : Fr H (H.alloc (.rw [.int .i64 C, .slice a l.length cap, .int .i64 w, .int .i64 ld, .int .i64 (-1)] 124 false [])) := Fr.alloc _ _
    refine c120 (hX _ f1) hS h0 (by (first | omega | (simp only [yz] <;> omega))) (by omega) ?_
    intro km H2 f2 k1 k2 mp
    have f12 := f1.trans f2
    have sz2 := f12.size
    have hshl := fun (x y : Operand) => shl1 (x := x) (y := y) (i := tt.length) ht
    have hsub := fun (x y : Operand) => subU (x := x) (y := y) (n := tt.length) ht
    simp (disch := (first | (simp only [yk,seval]; done) | omega | (simp only [yz] <;> omega) | fail)) only [↓yp,yq0,yq1,yq2,yq3,yq4,yl,ys0,ys1,seval,zed,zee,zfr,zhw,ysu,yrg,ysv,ysw,ysx,ysz,ysa,hln,hshl,hsub,A_build st_bdS_166]
    have hmp : MpB (((H2.alloc (.rw [.int .i64 0, .int .u64 0] 166 false [])).put H2.size (.rw [.int .i64 to, .int .u64 ((2 ^ tt.length - 1 : Nat) : Int)] 166 false [])).get km) (exTo l w ld (nxt (dnT tt)) (fr, 0) at₀ 241).F := by
      rw [zdd (by omega), zdb (by omega)]; exact mp
    refine A_look (F := (exTo l w ld (nxt (dnT tt)) (fr, 0) at₀ 241).F) (s := (to, ((2 ^ tt.length - 1 : Nat) : Int))) (k := km) (by simp (disch := (first | (simp only [yk,seval]; done) | omega | (simp only [yz] <;> omega) | fail)) only [↓yp,yq0,yq1,yq2,yq3,yq4,yl,ys0,ys1,seval,zed,zee,zfr,zhw,ysu,yrg,ysv,ysw,ysx,ysz,ysa]) (by simp (disch := (first | (simp only [yk,seval]; done) | omega | (simp only [yz] <;> omega) | fail)) only [↓yp,yq0,yq1,yq2,yq3,yq4,yl,ys0,ys1,seval,zed,zee,zfr,zhw,ysu,yrg,ysv,ysw,ysx,ysz,ysa,kv]) hmp (by (first | omega | (simp only [yz] <;> omega))) ?_
    cases hfl : flk (exTo l w ld (nxt (dnT tt)) (fr, 0) at₀ 241).F (to, ((2 ^ tt.length - 1 : Nat) : Int)) with
    | none =>
      simp (disch := (first | (simp only [yk,seval]; done) | omega | (simp only [yz] <;> omega) | fail)) only [↓yp,yq0,yq1,yq2,yq3,yq4,yl,ys0,ys1,seval,zed,zee,zfr,zhw,ysu,yrg,ysv,ysw,ysx,ysz,ysa,cond_true,orZero,av,Option.isSome_none,Option.isSome_some]
      refine ⟨?_, .inl fun m hm => ?_⟩
      · exact Fr.put (Fr.allocd (Fr.put (Fr.allocd f12 _) (by omega) _) _) (by omega) _
      · obtain ⟨x, h1, -⟩ := ex_least g hS h0 hm
        rw [hfl] at h1
        cases h1
    | some ar =>
      obtain ⟨ls, t1, t2, t7⟩ := tr_tour ht I g h0 hfl
      have hlen : ls.length ≤ 240 := by have := t2.le; have := (I.can _ _ hfl).le h0.2 g; omega
      have hleast : ∀ m', CanS l w ld (nxt (dnT tt)) (fr, 0) at₀ m' (to, ((2 ^ tt.length - 1 : Nat) : Int)) → ar.m ≤ m' := fun m' hm => by
        obtain ⟨x, h1, h2⟩ := ex_least g hS h0 hm
        rw [hfl] at h1
        cases h1
        exact h2
      simp (disch := (first | (simp only [yk,seval]; done) | omega | (simp only [yz] <;> omega) | fail)) only [↓yp,yq0,yq1,yq2,yq3,yq4,yl,ys0,ys1,seval,zed,zee,zfr,zhw,ysu,yrg,ysv,ysw,ysx,ysz,ysa,cond_true,orZero,av,Option.isSome_none,Option.isSome_some]
      have f3 : Fr H ((((H2.alloc (.rw [.int .i64 0, .int .u64 0] 166 false [])).put H2.size (.rw [.int .i64 to, .int .u64 ((2 ^ tt.length - 1 : Nat) : Int)] 166 false [])).alloc (.rw [.int .i64 0, .int .i64 0, .bool false, .int .i64 0, .int .u64 0] 168 false [])).put (H2.size + 1) (.rw [.int .i64 ar.m, .int .i64 ar.i, .bool ar.b, .int .i64 ar.c, .int .u64 ar.d] 168 false [])) := Fr.put (Fr.allocd (Fr.put (Fr.allocd f12 _) (by omega) _) _) (by omega) _
      have b14 : ((((H2.alloc (.rw [.int .i64 0, .int .u64 0] 166 false [])).put H2.size (.rw [.int .i64 to, .int .u64 ((2 ^ tt.length - 1 : Nat) : Int)] 166 false [])).alloc (.rw [.int .i64 0, .int .i64 0, .bool false, .int .i64 0, .int .u64 0] 168 false [])).put (H2.size + 1) (.rw [.int .i64 ar.m, .int .i64 ar.i, .bool ar.b, .int .i64 ar.c, .int .u64 ar.d] 168 false [])).get H2.size = .rw [.int .i64 to, .int .u64 ((2 ^ tt.length - 1 : Nat) : Int)] 166 false [] := by
        rw [zdd (by omega), zdb (by (first | omega | (simp only [yz] <;> omega))), zdc (by (first | omega | (simp only [yz] <;> omega)))]
      have b15 : ((((H2.alloc (.rw [.int .i64 0, .int .u64 0] 166 false [])).put H2.size (.rw [.int .i64 to, .int .u64 ((2 ^ tt.length - 1 : Nat) : Int)] 166 false [])).alloc (.rw [.int .i64 0, .int .i64 0, .bool false, .int .i64 0, .int .u64 0] 168 false [])).put (H2.size + 1) (.rw [.int .i64 ar.m, .int .i64 ar.i, .bool ar.b, .int .i64 ar.c, .int .u64 ar.d] 168 false [])).get (H2.size + 1) = .rw [.int .i64 ar.m, .int .i64 ar.i, .bool ar.b, .int .i64 ar.c, .int .u64 ar.d] 168 false [] := by
        rw [zdc (by (first | omega | (simp only [yz] <;> omega)))]
      have hmp3 : MpB (((((H2.alloc (.rw [.int .i64 0, .int .u64 0] 166 false [])).put H2.size (.rw [.int .i64 to, .int .u64 ((2 ^ tt.length - 1 : Nat) : Int)] 166 false [])).alloc (.rw [.int .i64 0, .int .i64 0, .bool false, .int .i64 0, .int .u64 0] 168 false [])).put (H2.size + 1) (.rw [.int .i64 ar.m, .int .i64 ar.i, .bool ar.b, .int .i64 ar.c, .int .u64 ar.d] 168 false [])).get km) (exTo l w ld (nxt (dnT tt)) (fr, 0) at₀ 241).F := by
        rw [zdd (by omega), zdb (by (first | omega | (simp only [yz] <;> omega)))]; exact hmp
      have sz3 : ((((H2.alloc (.rw [.int .i64 0, .int .u64 0] 166 false [])).put H2.size (.rw [.int .i64 to, .int .u64 ((2 ^ tt.length - 1 : Nat) : Int)] 166 false [])).alloc (.rw [.int .i64 0, .int .i64 0, .bool false, .int .i64 0, .int .u64 0] 168 false [])).put (H2.size + 1) (.rw [.int .i64 ar.m, .int .i64 ar.i, .bool ar.b, .int .i64 ar.c, .int .u64 ar.d] 168 false [])).size = H2.size + 2 := by simp only [zdf,zde]
      generalize ((((H2.alloc (.rw [.int .i64 0, .int .u64 0] 166 false [])).put H2.size (.rw [.int .i64 to, .int .u64 ((2 ^ tt.length - 1 : Nat) : Int)] 166 false [])).alloc (.rw [.int .i64 0, .int .i64 0, .bool false, .int .i64 0, .int .u64 0] 168 false [])).put (H2.size + 1) (.rw [.int .i64 ar.m, .int .i64 ar.i, .bool ar.b, .int .i64 ar.c, .int .u64 ar.d] 168 false [])) = H3 at f3 b14 b15 hmp3 sz3 ⊢
      obtain ⟨fl, v, H4, mm, hres, hLm, hr, f4, hff⟩ := resK_elim (Q := fun q v H' => RowL H' v ls H3.size ∧ Fr H3 H' ∧ (q = true → H' = H3)) (c121 (L := H3.size) (M := N + 19993) (km := km) t1 (by omega) hmp3 (Nat.le_refl _) (by omega) (by omega) fun q v H' h1 h2 h3 => ⟨h1, h2, h3⟩)
      simp only [kv] at hres
      have b154 : H4.get (H2.size + 1) = .rw [.int .i64 ar.m, .int .i64 ar.i, .bool ar.b, .int .i64 ar.c, .int .u64 ar.d] 168 false [] := by rw [f4.same _ (by omega)]; exact b15
      have b144 : H4.get H2.size = .rw [.int .i64 to, .int .u64 ((2 ^ tt.length - 1 : Nat) : Int)] 166 false [] := by rw [f4.same _ (by omega)]; exact b14
      have sz4 := f4.size
      cases fl with
      | true =>
        have := hff rfl
        subst this
        refine W_draw [] rfl (by kernel_rfl) (by kernel_rfl) (by (first | omega | (simp only [yz] <;> omega))) ?_
        simp (disch := (first | (simp only [yk,seval]; done) | omega | (simp only [yz] <;> omega) | fail)) only [↓yp,yq0,yq1,yq2,yq3,yq4,yl,ys0,ys1,seval,zed,zee,zfr,zhw,ysu,yrg,ysv,ysw,ysx,ysz,ysa,b14,b15,hres,A_build st_bdS_166]
        exact ⟨⟨sameV_map, hr.sameV6, hr.sameV6⟩, f3.trans f4, .inr ⟨_, ls, _, rfl, hr.low (by omega), t2, t7, I.can _ _ hfl, hleast⟩⟩
      | false =>
        refine W_draw [4] rfl (by kernel_rfl) (by kernel_rfl) (by (first | omega | (simp only [yz] <;> omega))) ?_
        simp (disch := (first | (simp only [yk,seval]; done) | omega | (simp only [yz] <;> omega) | fail)) only [↓yp,yq0,yq1,yq2,yq3,yq4,yl,ys0,ys1,seval,zed,zee,zfr,zhw,ysu,yrg,ysv,ysw,ysx,ysz,ysa,b14,b15,b144,b154,hres,A_build st_bdS_166]
        exact ⟨⟨⟨sameV_map, sameV_map⟩, hr.sameV6, hr.sameV6⟩, f3.trans f4, .inr ⟨_, ls, _, rfl, hr.low (by omega), t2, t7, I.can _ _ hfl, hleast⟩⟩
  · rintro v H' ⟨f, ⟨rfl, h⟩ | ⟨u, ls, m, rfl, h1, h2, h3, h4, h5⟩⟩
    · exact hn _ f h _
    · exact hq _ _ _ _ _ f h1 h2 h3 h4 h5
  · rintro v H' ⟨f, ⟨rfl, h⟩ | ⟨u, ls, m, rfl, h1, h2, h3, h4, h5⟩⟩ hg
    · exact hn _ (Fr.refl H) h _
    · refine hq _ _ _ _ _ (Fr.refl H) ⟨h1.nil, fun hne => ?_⟩ h2 h3 h4 h5
      obtain ⟨b, al, rfl, -⟩ := h1.cons hne
      cases hg
end
end Go.Am
namespace Go.Am
open Go.Proofs
variable {T : Tab} {P : Program} {N L : Nat} {H : AHeap} {Q : Bool → Value → AHeap → Prop}
structure Op (H : AHeap) (a : Option Addr) (cap : Nat) (t : List Int) : Prop where
  il : Il H a t
  op : t ≠ [] → ∃ b o kn, a = some ⟨b, o, none⟩ ∧ cap = OPEN + 1 ∧ known H ⟨b, o, none⟩ t.length 1 (OPEN + 1) = kn ∧ t.length ≤ kn
theorem Il.take {a : Option Addr} {t : List Int} (h : Il H a t) (i : Nat) : Il H a (t.take i) := ⟨fun hne => by
  obtain ⟨b, o, c, h1, h2, h3, h4⟩ := h.get (fun h => by subst h; simp at hne)
  refine ⟨b, o, c, h1, h2, h3, fun j n hj => h4 j n ?_⟩
  rw [List.getElem?_take] at hj
  split at hj
  · exact hj
  · cases hj⟩
theorem nodup_take {t : List Int} {i : Nat} (hi : i < t.length) (h : (t.take i).Nodup) (hm : t[i] ∉ t.take i) : (t.take (i + 1)).Nodup := by
  rw [List.take_succ_eq_append_getElem hi]
  exact List.nodup_append.2 ⟨h, by simp, fun x hx y hy => by simp at hy; subst hy; exact fun e => hm (e ▸ hx)⟩
theorem nodup_not {t : List Int} {i : Nat} (hi : i < t.length) (hm : t[i] ∈ t.take i) : ¬ t.Nodup := fun h => by
  have h2 : (t.take (i + 1)).Nodup := h.sublist (List.take_sublist _ _)
  rw [List.take_succ_eq_append_getElem hi] at h2
  exact (List.nodup_append.1 h2).2.2 _ hm _ (by simp) rfl
set_option maxHeartbeats 1000000 in
theorem c113 {a : Option Addr} {cap : Nat} {t : List Int} (hs : Op H a cap t) (hl : t.length ≤ 6) :
    acall tabA (aexec tabA Try.prog (N + 200)) 113 [.slice a t.length cap] H = some (true, .bool (!decide t.Nodup), H, H.size) := by
  refine call_quiet (k := 18) (rs := [.tmp 2]) rfl fn_113 rfl rfl rfl ?_ rfl
  simp (disch := (first | (simp only [yk,seval]; done) | omega | (simp only [yz] <;> omega) | fail)) only [↓yp,yq0,yq1,yq2,yq3,yq4,yl,ys0,ys1,seval,zed,zee,zfr,zhw,ysu,yrg,ysv,ysw,ysx,ysz,ysa,lenV_slice zir]
  refine W_while (n := 18) 150 (fun k e H' => ∃ i : Nat, k = t.length - i ∧ i ≤ t.length ∧ gt 18 e 7 = .int .i64 (i : Nat) ∧ gt 18 e 6 = .int .i64 t.length ∧ gt 18 e 5 = .slice a t.length cap ∧ gt 18 e 0 = .slice a t.length cap ∧ H' = H ∧ (t.take i).Nodup)
    ?_ 6 t.length ⟨0, by omega, by omega, by simp (disch := (first | (simp only [yk,seval]; done) | omega | (simp only [yz] <;> omega) | fail)) only [yg,seval] <;> rfl, by simp (disch := (first | (simp only [yk,seval]; done) | omega | (simp only [yz] <;> omega) | fail)) only [yg,seval], by simp (disch := (first | (simp only [yk,seval]; done) | omega | (simp only [yz] <;> omega) | fail)) only [yg,seval], by simp (disch := (first | (simp only [yk,seval]; done) | omega | (simp only [yz] <;> omega) | fail)) only [yg,seval], rfl, by simp⟩ (by omega) (by omega)
  rintro M k e H' ⟨i, rfl, hi, g7, g6, g5, g0, rfl, hnd⟩
  simp (disch := (first | (simp only [yk,seval]; done) | omega | (simp only [yz] <;> omega) | fail)) only [↓yp,yq0,yq1,yq2,yq3,yq4,yl,ys0,ys1,seval,zed,zee,zfr,zhw,ysu,yrg,ysv,ysw,ysx,ysz,ysa,g7,g6]
  refine ⟨fun hA => ?_, fun hA => ?_⟩
  · have hi' : i < t.length := by simpa using hA
    have hne : t ≠ [] := fun h => by rw [h] at hi'; simp at hi'
    obtain ⟨b, o, kn, rfl, rfl, hk, hkn⟩ := hs.op hne
    obtain ⟨b', o', c, he, hc, hp⟩ := hs.il.c hne
    cases he
    have q := hp i t[i] (by simp [hi'])
    have hw2 : w64 ((i : Int) + 1) = ((i + 1 : Nat) : Int) := by rw [w64_of (by omega)]; omega
    have hlen : (t.take i).length = i := by rw [List.length_take]; omega
    have hct := fun (N : Nat) => c57g (N := N) (cap := OPEN + 1) (x := t[i]) (hs.il.take i) (by omega)
    rw [hlen] at hct
    simp (disch := (first | (simp only [yk,seval]; done) | omega | (simp only [yz] <;> omega) | fail)) only [↓yp,yq0,yq1,yq2,yq3,yq4,yl,ys0,ys1,seval,zed,zee,zfr,zhw,ysu,yrg,ysv,ysw,ysx,ysz,ysa,g7,g5,g0,A_indexSlice zir,hc,q,Nat.mul_one]
    refine A_sliceF (j := i) zir (by simp (disch := (first | (simp only [yk,seval]; done) | omega | (simp only [yz] <;> omega) | fail)) only [↓yp,yq0,yq1,yq2,yq3,yq4,yl,ys0,ys1,seval,zed,zee,zfr,zhw,ysu,yrg,ysv,ysw,ysx,ysz,ysa,g0]) (by simp (disch := (first | (simp only [yk,seval]; done) | omega | (simp only [yz] <;> omega) | fail)) only [↓yp,yq0,yq1,yq2,yq3,yq4,yl,ys0,ys1,seval,zed,zee,zfr,zhw,ysu,yrg,ysv,ysw,ysx,ysz,ysa]) hk (by omega) (by (first | omega | (simp only [yz] <;> omega))) ?_
    cases hD : decide (t[i] ∈ t.take i)
    · simp (disch := (first | (simp only [yk,seval]; done) | omega | (simp only [yz] <;> omega) | fail)) only [↓yp,yq0,yq1,yq2,yq3,yq4,yl,ys0,ys1,seval,zed,zee,zfr,zhw,ysu,yrg,ysv,ysw,ysx,ysz,ysa,g7,hct,hD,hw2]
      refine ⟨t.length - (i + 1), by omega, i + 1, rfl, by omega, ?_, ?_, ?_, ?_, rfl, nodup_take hi' hnd (of_decide_eq_false hD)⟩
      · simp (disch := (first | (simp only [yk,seval]; done) | omega | (simp only [yz] <;> omega) | fail)) only [yg,seval]
      · simp (disch := (first | (simp only [yk,seval]; done) | omega | (simp only [yz] <;> omega) | fail)) only [yg,seval,g6]
      · simp (disch := (first | (simp only [yk,seval]; done) | omega | (simp only [yz] <;> omega) | fail)) only [yg,seval,g5]
      · simp (disch := (first | (simp only [yk,seval]; done) | omega | (simp only [yz] <;> omega) | fail)) only [yg,seval,g0]
    · have hr : decide t.Nodup = false := decide_eq_false (nodup_not hi' (of_decide_eq_true hD))
      simp (disch := (first | (simp only [yk,seval]; done) | omega | (simp only [yz] <;> omega) | fail)) only [↓yp,yq0,yq1,yq2,yq3,yq4,yl,ys0,ys1,seval,zed,zee,zfr,zhw,ysu,yrg,ysv,ysw,ysx,ysz,ysa,hct,hD,hr,Bool.not_false]
  · have hi' : i = t.length := by have := of_decide_eq_false hA; omega
    have hr : decide t.Nodup = true := decide_eq_true (by rw [hi', List.take_length] at hnd; exact hnd)
    simp (disch := (first | (simp only [yk,seval]; done) | omega | (simp only [yz] <;> omega) | fail)) only [↓yp,yq0,yq1,yq2,yq3,yq4,yl,ys0,ys1,seval,zed,zee,zfr,zhw,ysu,yrg,ysv,ysw,ysx,ysz,ysa,hr,Bool.not_true]
def lckB (ls : List (Int × Bool)) (t : List Int) : Bool := t.any fun s => !ls.any fun p => decide (p.1 = s)
theorem lck_end {ls : List (Int × Bool)} {t : List Int} (h : ∀ j s, j < t.length → t[j]? = some s → ls.any (fun p => decide (p.1 = s)) = true) : lckB ls t = false := by
  unfold lckB
  rw [List.any_eq_false]
  intro s hs
  obtain ⟨j, hj⟩ := List.getElem?_of_mem hs
  rw [h j s (List.getElem?_eq_some_iff.1 hj).1 hj]
  simp
theorem lck_one {ls : List (Int × Bool)} {t : List Int} {s : Int} (hs : s ∈ t) (h : ∀ (j : Nat) p, ls[j]? = some p → p.1 ≠ s) : lckB ls t = true := by
  unfold lckB
  rw [List.any_eq_true]
  refine ⟨s, hs, ?_⟩
  rw [Bool.not_eq_true', List.any_eq_false]
  intro p hp
  obtain ⟨j, hj⟩ := List.getElem?_of_mem hp
  simpa using h j p hj
set_option maxHeartbeats 2000000 in
theorem c114 {a ta : Option Addr} {cap tc : Nat} {t : List Int} {ls : List (Int × Bool)} (hs : Lg H a ls) (hl : ls.length ≤ 65) (ht : Il H ta t) (htl : t.length ≤ 6) :
    acall tabA (aexec tabA Try.prog (N + 250)) 114 [.slice a ls.length cap, .slice ta t.length tc] H = some (true, .bool (lckB ls t), H, H.size) := by
  refine call_quiet (k := 29) (rs := [.tmp 4]) rfl fn_114 rfl rfl rfl ?_ rfl
  simp (disch := (first | (simp only [yk,seval]; done) | omega | (simp only [yz] <;> omega) | fail)) only [↓yp,yq0,yq1,yq2,yq3,yq4,yl,ys0,ys1,seval,zed,zee,zfr,zhw,ysu,yrg,ysv,ysw,ysx,ysz,ysa,↓W_scope,lenV_slice zir]
  refine W_while (n := 29) 200 (fun k e H' => ∃ i : Nat, k = t.length - i ∧ i ≤ t.length ∧ gt 29 e 12 = .int .i64 (i : Nat) ∧ gt 29 e 11 = .int .i64 t.length ∧ gt 29 e 10 = .slice ta t.length tc ∧ gt 29 e 0 = .slice a ls.length cap ∧ gt 29 e 5 = .bool false ∧ Fr H H' ∧ ∀ j s, j < i → t[j]? = some s → ls.any (fun p => decide (p.1 = s)) = true)
    ?_ 6 t.length ⟨0, by omega, by omega, by simp (disch := (first | (simp only [yk,seval]; done) | omega | (simp only [yz] <;> omega) | fail)) only [yg,seval] <;> rfl, by simp (disch := (first | (simp only [yk,seval]; done) | omega | (simp only [yz] <;> omega) | fail)) only [yg,seval], by simp (disch := (first | (simp only [yk,seval]; done) | omega | (simp only [yz] <;> omega) | fail)) only [yg,seval], by simp (disch := (first | (simp only [yk,seval]; done) | omega | (simp only [yz] <;> omega) | fail)) only [yg,seval], by simp (disch := (first | (simp only [yk,seval]; done) | omega | (simp only [yz] <;> omega) | fail)) only [yg,seval], by (repeat (first | exact Fr.refl _ | assumption | refine Fr.allocd ?_ _ | refine Fr.put ?_ (by first | omega | (simp only [yz] <;> omega)) _)), fun j s h => by omega⟩ (by omega) (by omega)
  rintro M k e H' ⟨i, rfl, hi, g12, g11, g10, g0, g5, fr, hj⟩
  have f0 := fr.size
  have fs := fr.same
  simp (disch := (first | (simp only [yk,seval]; done) | omega | (simp only [yz] <;> omega) | fail)) only [↓yp,yq0,yq1,yq2,yq3,yq4,yl,ys0,ys1,seval,zed,zee,zfr,zhw,ysu,yrg,ysv,ysw,ysx,ysz,ysa,g12,g11]
  refine ⟨fun hA => ?_, fun hA => ?_⟩
  · have hi' : i < t.length := by simpa using hA
    have hne : t ≠ [] := fun h => by rw [h] at hi'; simp at hi'
    obtain ⟨b, o, c, rfl, hb, hc, hp⟩ := ht.get hne
    obtain ⟨s, hs'⟩ : ∃ s, t[i]? = some s := ⟨t[i], by simp [hi']⟩
    have q := hp i s hs'
    have hc' : cellsOf (H'.get b) = some c := by rw [fs b hb]; exact hc
    have hw2 : w64 ((i : Int) + 1) = ((i + 1 : Nat) : Int) := by rw [w64_of (by omega)]; omega
    simp (disch := (first | (simp only [yk,seval]; done) | omega | (simp only [yz] <;> omega) | fail)) only [↓yp,yq0,yq1,yq2,yq3,yq4,yl,ys0,ys1,seval,zed,zee,zfr,zhw,ysu,yrg,ysv,ysw,ysx,ysz,ysa,g12,g10,g0,A_indexSlice zir,hc',q,Nat.mul_one,lenV_slice st_esS_65]
    refine W_while (n := 29) 80 (fun k e' H'' => ∃ j : Nat, k = ls.length - j ∧ j ≤ ls.length ∧ gt 29 e' 18 = .int .i64 (j : Nat) ∧ gt 29 e' 17 = .int .i64 ls.length ∧ gt 29 e' 16 = .slice a ls.length cap ∧ gt 29 e' 7 = .int .i64 s ∧ gt 29 e' 12 = .int .i64 (i : Nat) ∧ gt 29 e' 11 = .int .i64 t.length ∧ gt 29 e' 10 = .slice (some ⟨b, o, none⟩) t.length tc ∧ gt 29 e' 0 = .slice a ls.length cap ∧ gt 29 e' 5 = .bool false ∧ Fr H H'' ∧ ∀ q p, q < j → ls[q]? = some p → p.1 ≠ s)
      ?_ 65 ls.length ⟨0, by omega, by omega, by simp (disch := (first | (simp only [yk,seval]; done) | omega | (simp only [yz] <;> omega) | fail)) only [yg,seval] <;> rfl, by simp (disch := (first | (simp only [yk,seval]; done) | omega | (simp only [yz] <;> omega) | fail)) only [yg,seval], by simp (disch := (first | (simp only [yk,seval]; done) | omega | (simp only [yz] <;> omega) | fail)) only [yg,seval], by simp (disch := (first | (simp only [yk,seval]; done) | omega | (simp only [yz] <;> omega) | fail)) only [yg,seval], by simp (disch := (first | (simp only [yk,seval]; done) | omega | (simp only [yz] <;> omega) | fail)) only [yg,seval,g12], by simp (disch := (first | (simp only [yk,seval]; done) | omega | (simp only [yz] <;> omega) | fail)) only [yg,seval,g11], by simp (disch := (first | (simp only [yk,seval]; done) | omega | (simp only [yz] <;> omega) | fail)) only [yg,seval,g10], by simp (disch := (first | (simp only [yk,seval]; done) | omega | (simp only [yz] <;> omega) | fail)) only [yg,seval,g0], by simp (disch := (first | (simp only [yk,seval]; done) | omega | (simp only [yz] <;> omega) | fail)) only [yg,seval,g5], fr, fun q p h => by omega⟩ (by omega) (by omega)
    rintro M k e' H'' ⟨j, rfl, hjl, g18, g17, g16, g7, g12, g11, g10, g0, g5, fr', hq⟩
    have f0' := fr'.size
    have fs' := fr'.same
    simp (disch := (first | (simp only [yk,seval]; done) | omega | (simp only [yz] <;> omega) | fail)) only [↓yp,yq0,yq1,yq2,yq3,yq4,yl,ys0,ys1,seval,zed,zee,zfr,zhw,ysu,yrg,ysv,ysw,ysx,ysz,ysa,g18,g17]
    refine ⟨fun hB => ?_, fun hB => ?_⟩
    · have hj' : j < ls.length := by simpa using hB
      have hne' : ls ≠ [] := fun h => by rw [h] at hj'; simp at hj'
      obtain ⟨b', o', c', rfl, hb', hcc, hpp⟩ := hs.get hne'
      obtain ⟨p, hp'⟩ : ∃ p, ls[j]? = some p := ⟨ls[j], by simp [hj']⟩
      have q' := hpp j p hp'
      have hcc' : cellsOf (H''.get b') = some c' := by rw [fs' b' hb']; exact hcc
      have hw3 : w64 ((j : Int) + 1) = ((j + 1 : Nat) : Int) := by rw [w64_of (by omega)]; omega
      cases hD : decide (p.1 = s)
      · simp (disch := (first | (simp only [yk,seval]; done) | omega | (simp only [yz] <;> omega) | fail)) only [↓yp,yq0,yq1,yq2,yq3,yq4,yl,ys0,ys1,seval,zed,zee,zfr,zhw,ysu,yrg,ysv,ysw,ysx,ysz,ysa,g18,g16,g7,A_indexSlice st_esS_65,hcc',q',hD,hw3]
        refine ⟨ls.length - (j + 1), by omega, j + 1, rfl, by omega, ?_, ?_, ?_, ?_, ?_, ?_, ?_, ?_, ?_, fr'.trans (by (repeat (first | exact Fr.refl _ | assumption | refine Fr.allocd ?_ _ | refine Fr.put ?_ (by first | omega | (simp only [yz] <;> omega)) _))), fun r x hr hx => ?_⟩
        · simp (disch := (first | (simp only [yk,seval]; done) | omega | (simp only [yz] <;> omega) | fail)) only [yg,seval]
        · simp (disch := (first | (simp only [yk,seval]; done) | omega | (simp only [yz] <;> omega) | fail)) only [yg,seval,g17]
        · simp (disch := (first | (simp only [yk,seval]; done) | omega | (simp only [yz] <;> omega) | fail)) only [yg,seval,g16]
        · simp (disch := (first | (simp only [yk,seval]; done) | omega | (simp only [yz] <;> omega) | fail)) only [yg,seval,g7]
        · simp (disch := (first | (simp only [yk,seval]; done) | omega | (simp only [yz] <;> omega) | fail)) only [yg,seval,g12]
        · simp (disch := (first | (simp only [yk,seval]; done) | omega | (simp only [yz] <;> omega) | fail)) only [yg,seval,g11]
        · simp (disch := (first | (simp only [yk,seval]; done) | omega | (simp only [yz] <;> omega) | fail)) only [yg,seval,g10]
        · simp (disch := (first | (simp only [yk,seval]; done) | omega | (simp only [yz] <;> omega) | fail)) only [yg,seval,g0]
        · simp (disch := (first | (simp only [yk,seval]; done) | omega | (simp only [yz] <;> omega) | fail)) only [yg,seval,g5]
        · by_cases e : r = j
          · subst e; rw [hp'] at hx; cases hx; exact of_decide_eq_false hD
          · exact hq r x (by omega) hx
      · simp (disch := (first | (simp only [yk,seval]; done) | omega | (simp only [yz] <;> omega) | fail)) only [↓yp,yq0,yq1,yq2,yq3,yq4,yl,ys0,ys1,seval,zed,zee,zfr,zhw,ysu,yrg,ysv,ysw,ysx,ysz,ysa,g18,g16,g7,g12,A_indexSlice st_esS_65,hcc',q',hD,hw2]
        refine ⟨t.length - (i + 1), by omega, i + 1, rfl, by omega, ?_, ?_, ?_, ?_, ?_, fr'.trans (by (repeat (first | exact Fr.refl _ | assumption | refine Fr.allocd ?_ _ | refine Fr.put ?_ (by first | omega | (simp only [yz] <;> omega)) _))), fun r x hr hx => ?_⟩
        · simp (disch := (first | (simp only [yk,seval]; done) | omega | (simp only [yz] <;> omega) | fail)) only [yg,seval]
        · simp (disch := (first | (simp only [yk,seval]; done) | omega | (simp only [yz] <;> omega) | fail)) only [yg,seval,g11]
        · simp (disch := (first | (simp only [yk,seval]; done) | omega | (simp only [yz] <;> omega) | fail)) only [yg,seval,g10]
        · simp (disch := (first | (simp only [yk,seval]; done) | omega | (simp only [yz] <;> omega) | fail)) only [yg,seval,g0]
        · simp (disch := (first | (simp only [yk,seval]; done) | omega | (simp only [yz] <;> omega) | fail)) only [yg,seval,g5]
        · by_cases e : r = i
          · subst e; rw [hs'] at hx; cases hx; exact List.any_eq_true.2 ⟨p, List.mem_of_getElem? hp', hD⟩
          · exact hj r x (by omega) hx
    · have hj' : j = ls.length := by have := of_decide_eq_false hB; omega
      have hr : lckB ls t = true := lck_one (List.mem_of_getElem? hs') fun r p hp => hq r p (by have := (List.getElem?_eq_some_iff.1 hp).1; omega) hp
      simp (disch := (first | (simp only [yk,seval]; done) | omega | (simp only [yz] <;> omega) | fail)) only [↓yp,yq0,yq1,yq2,yq3,yq4,yl,ys0,ys1,seval,zed,zee,zfr,zhw,ysu,yrg,ysv,ysw,ysx,ysz,ysa,scK_ret,hr]
  · have hi' : i = t.length := by have := of_decide_eq_false hA; omega
    have hr : lckB ls t = false := lck_end fun j s h => hj j s (by omega)
    simp (disch := (first | (simp only [yk,seval]; done) | omega | (simp only [yz] <;> omega) | fail)) only [↓yp,yq0,yq1,yq2,yq3,yq4,yl,ys0,ys1,seval,zed,zee,zfr,zhw,ysu,yrg,ysv,ysw,ysx,ysz,ysa,scK_ret,g5,hr]
set_option maxHeartbeats 1000000 in
theorem c69 {a ta : Option Addr} {cap tc : Nat} {t : List Int} {ls : List (Int × Bool)} (hs : Lg H a ls) (hl : ls.length ≤ 60) (ht : Il H ta t) (htl : t.length ≤ 6) :
    acall tabA (aexec tabA Try.prog (N + 300)) 69 [.slice a ls.length cap, .slice ta t.length tc] H = some (true, .tuple ⟨[.bool (!lckB ls t), .int .i64 0]⟩, H, H.size) := by
  have hc := fun (N : Nat) => c114 (N := N) (cap := cap) (tc := tc) hs (by omega) ht htl
  have h1 : decide ((ls.length : Int) > 60) = false := by simp; omega
  have h2 : decide ((t.length : Int) > 6) = false := by simp; omega
  refine call_quiet (k := 18) (rs := [.tmp 4, .tmp 5]) rfl fn_69 rfl rfl rfl ?_ rfl
  simp (disch := (first | (simp only [yk,seval]; done) | omega | (simp only [yz] <;> omega) | fail)) only [↓yp,yq0,yq1,yq2,yq3,yq4,yl,ys0,ys1,seval,zed,zee,zfr,zhw,ysu,yrg,ysv,ysw,ysx,ysz,ysa,lenV_slice st_esS_65,lenV_slice zir,h1,h2,hc]
end Go.Am
