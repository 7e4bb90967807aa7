import Derived.Test.YtaieoelbpnjoiaaT48
import Derived.Test.YtaieoelbpnjoiaaT46
set_option linter.unusedSimpArgs false
set_option linter.unusedVariables false
namespace Go.Am
open Go.Proofs
variable {T : Tab} {P : Program} {N L : Nat} {H : AHeap} {Q : Bool → Value → AHeap → Prop}
theorem subU {x y : Operand} : ∀ {n : Nat}, n ≤ 6 → binV tabA Try.prog .sub 142 x y (.int .u64 ((2 ^ n : Nat) : Int)) (.int .u64 1) = some (.int .u64 ((2 ^ n - 1 : Nat) : Int))
 | 0, _ => rfl
 | 1, _ => rfl
 | 2, _ => rfl
 | 3, _ => rfl
 | 4, _ => rfl
 | 5, _ => rfl
 | 6, _ => rfl
 | n + 7, h => by omega
section
variable {l : List Str} {C w ld fr : Int} {a sa : Option Addr} {cap sc : Nat} {tt : List Int}
theorem dnT_lt {d : Int} {i : Nat} (ht : tt.length ≤ 6) (hd : d.toNat < 2 ^ tt.length) : (dnT tt d i).toNat < 2 ^ tt.length ∧ 0 ≤ dnT tt d i := by
 unfold dnT
 rw [Int.toNat_natCast]
 exact ⟨Nat.or_lt_two_pow hd (bitN_lt ht), by omega⟩
theorem stT (g : Good C l ld) (hf : 0 ≤ fr ∧ fr ≤ 7) (ht : tt.length ≤ 6) : StS l (nxt (dnT tt)) (fr, 0) (corT tt.length) :=
 ⟨corT_iff.2 ⟨hf, Int.le_refl _, Nat.two_pow_pos _⟩, fun s hs i r b hi hn => corT_iff.2 (by
  have hg := g.st r (List.mem_of_getElem? hi)
  have hC := g.hC
  have h2 := (corT_iff.1 hs).2
  have h3 := dnT_lt (i := i) ht h2.2
  refine ⟨?_, h3.2, h3.1⟩
  unfold nxt farL
  cases b <;> simp only [cond_true,cond_false] <;> omega)⟩
theorem exCT (hs : Sl H a l) (hi : Il H sa tt) (ht : tt.length ≤ 6) (g : Good C l ld) (hl : l.length ≤ 18) : ExC H l C w ld a cap (.slice sa tt.length sc) (fun i => ((bitN tt i : Nat) : Int)) (dnT tt) (corT tt.length) :=
 ⟨hs, g, hl, fun N H'' i f _ => c132 (N := N) (hi.fr f) ht, fun s hs i x y _ => by
  have h2 := (corT_iff.1 hs).2
  have h3 := bitN_lt (t := tt) (x := (i : Int)) ht
  have h4 : 2 ^ tt.length ≤ 2 ^ 6 := Nat.pow_le_pow_right (by omega) ht
  obtain ⟨d, hd⟩ : ∃ d : Nat, s.2 = d := ⟨s.2.toNat, by omega⟩
  rw [hd, Int.toNat_natCast] at h2
  rw [hd, u64_or, orU_nat (by omega) (by omega)]
  unfold dnT
  rw [Int.toNat_natCast], corT_len ht, rfl, by simp [sameV]⟩
end
section
variable {l : List Str} {C w ld fr at₀ to : Int} {a sa : Option Addr} {cap sc : Nat} {tt : List Int}
set_option maxHeartbeats 4000000 in
theorem c92v {sv : Value} (hX : ∀ H', Fr H H' → ExC H' l C w ld a cap sv (fun i => ((bitN tt i : Nat) : Int)) (dnT tt) (corT tt.length)) (hln : ∀ H' : AHeap, lenV tabA H' 52 sv = some (.int .i64 (tt.length : Nat))) (ht : tt.length ≤ 6) (g : Good C l ld) (hl : l.length ≤ 18) (h0 : 0 ≤ at₀ ∧ at₀ ≤ 240) (hf : 0 ≤ fr ∧ fr ≤ 7) (hL : L ≤ H.size) {M : Nat} (hM : 20000 ≤ M)
  (hn : ∀ H', Fr H H' → (∀ m, ¬ CanS l w ld (nxt (dnT tt)) (fr, 0) at₀ m (to, ((2 ^ tt.length - 1 : Nat) : Int))) → ∀ q, Q q (.tuple ⟨[.slice none 0 0, .int .i64 0, .int .i64 1]⟩) H')
  (hq : ∀ q v ls H' m, Fr H H' → RowL H' v ls H.size → Run l w ld (nxt (dnT tt)) (fr, 0) at₀ ls (to, ((2 ^ tt.length - 1 : Nat) : Int)) m → ls.length ≤ 55 → CanS l w ld (nxt (dnT tt)) (fr, 0) at₀ m (to, ((2 ^ tt.length - 1 : Nat) : Int)) → (∀ m', CanS l w ld (nxt (dnT tt)) (fr, 0) at₀ m' (to, ((2 ^ tt.length - 1 : Nat) : Int)) → m ≤ m') → Q q (.tuple ⟨[v, .int .i64 m, .int .i64 0]⟩) H') :
  resK (acall tabA (aexec tabA Try.prog M) 92 [jobG C a l.length cap w ld (-1), .int .i64 fr, .int .i64 at₀, sv, .int .i64 to] H) L Q := by
 obtain ⟨N, rfl⟩ : ∃ N, M = N + 20000 := ⟨M - 20000, by omega⟩
 have hS : StS l (nxt (dnT tt)) (fr, 0) (corT tt.length) := stT (tt := tt) g hf ht
 have hfull : 2 ^ tt.length - 1 < 2 ^ tt.length := by have := Nat.two_pow_pos tt.length; omega
 have I := exTo_ok (w := w) g hS h0 241
 refine call_some (R := fun v H' => Fr H H' ∧ ((v = .tuple ⟨[.slice none 0 0, .int .i64 0, .int .i64 1]⟩ ∧ ∀ m, ¬ CanS l w ld (nxt (dnT tt)) (fr, 0) at₀ m (to, ((2 ^ tt.length - 1 : Nat) : Int))) ∨
   ∃ u ls m, v = .tuple ⟨[u, .int .i64 m, .int .i64 0]⟩ ∧ RowL H' u ls H.size ∧ Run l w ld (nxt (dnT tt)) (fr, 0) at₀ ls (to, ((2 ^ tt.length - 1 : Nat) : Int)) m ∧ ls.length ≤ 55 ∧ CanS l w ld (nxt (dnT tt)) (fr, 0) at₀ m (to, ((2 ^ tt.length - 1 : Nat) : Int)) ∧ (∀ m', CanS l w ld (nxt (dnT tt)) (fr, 0) at₀ m' (to, ((2 ^ tt.length - 1 : Nat) : Int)) → m ≤ m')))
  (k := 43) (rs := [.tmp 10, .tmp 11, .tmp 12]) rfl fn_92 rfl rfl rfl hL ?_ ?_ ?_
 ·simp (disch:=first|(simp only [yk,seval];done)|omega|(simp only [yz]<;>omega)|fail) only [↓yp,yq0,yq1,yq2,yq3,yq4,yl,ys0,ys1,seval,zed,zee,zfr,zhw,ysu,yrg,ysv,ysw,ysx,ysz,ysa,jobG]
  have f1 : Fr H (H.alloc (.rw [.int .i64 C, .slice a l.length cap, .int .i64 w, .int .i64 ld, .int .i64 (-1)] 124 false [])) := Fr.alloc _ _
  refine c120 (hX _ f1) hS h0 (by first|omega|(simp only [yz]<;>omega)) (by omega) ?_
  intro km H2 f2 k1 k2 mp
  have f12 := f1.trans f2
  have sz2 := f12.size
  have hshl := fun (x y : Operand) => shl1 (x := x) (y := y) (i := tt.length) ht
  have hsub := fun (x y : Operand) => subU (x := x) (y := y) (n := tt.length) ht
  simp (disch:=first|(simp only [yk,seval];done)|omega|(simp only [yz]<;>omega)|fail) only [↓yp,yq0,yq1,yq2,yq3,yq4,yl,ys0,ys1,seval,zed,zee,zfr,zhw,ysu,yrg,ysv,ysw,ysx,ysz,ysa,hln,hshl,hsub,A_build st_bdS_166]
  have hmp : MpB (((H2.alloc (.rw [.int .i64 0, .int .u64 0] 166 false [])).put H2.size (.rw [.int .i64 to, .int .u64 ((2 ^ tt.length - 1 : Nat) : Int)] 166 false [])).get km) (exTo l w ld (nxt (dnT tt)) (fr, 0) at₀ 241).F := by
   rw [zdd (by omega), zdb (by omega)]; exact mp
  refine A_look (F := (exTo l w ld (nxt (dnT tt)) (fr, 0) at₀ 241).F) (s := (to, ((2 ^ tt.length - 1 : Nat) : Int))) (k := km) (by simp (disch:=first|(simp only [yk,seval];done)|omega|(simp only [yz]<;>omega)|fail) only [↓yp,yq0,yq1,yq2,yq3,yq4,yl,ys0,ys1,seval,zed,zee,zfr,zhw,ysu,yrg,ysv,ysw,ysx,ysz,ysa]) (by simp (disch:=first|(simp only [yk,seval];done)|omega|(simp only [yz]<;>omega)|fail) only [↓yp,yq0,yq1,yq2,yq3,yq4,yl,ys0,ys1,seval,zed,zee,zfr,zhw,ysu,yrg,ysv,ysw,ysx,ysz,ysa,kv]) hmp (by first|omega|(simp only [yz]<;>omega)) ?_
  cases hfl : flk (exTo l w ld (nxt (dnT tt)) (fr, 0) at₀ 241).F (to, ((2 ^ tt.length - 1 : Nat) : Int)) with
  | none =>
   simp (disch:=first|(simp only [yk,seval];done)|omega|(simp only [yz]<;>omega)|fail) only [↓yp,yq0,yq1,yq2,yq3,yq4,yl,ys0,ys1,seval,zed,zee,zfr,zhw,ysu,yrg,ysv,ysw,ysx,ysz,ysa,cond_true,orZero,av,Option.isSome_none,Option.isSome_some]
   refine ⟨?_, .inl fun m hm => ?_⟩
   ·exact Fr.put (Fr.allocd (Fr.put (Fr.allocd f12 _) (by omega) _) _) (by omega) _
   ·obtain ⟨x, h1, -⟩ := ex_least g hS h0 hm
    rw [hfl] at h1
    cases h1
  | some ar =>
   obtain ⟨ls, t1, t2, t7⟩ := tr_tour ht I g h0 hfl
   have hlen : ls.length ≤ 240 := by have := t2.le; have := (I.can _ _ hfl).le h0.2 g; omega
   have hleast : ∀ m', CanS l w ld (nxt (dnT tt)) (fr, 0) at₀ m' (to, ((2 ^ tt.length - 1 : Nat) : Int)) → ar.m ≤ m' := fun m' hm => by
    obtain ⟨x, h1, h2⟩ := ex_least g hS h0 hm
    rw [hfl] at h1
    cases h1
    exact h2
   simp (disch:=first|(simp only [yk,seval];done)|omega|(simp only [yz]<;>omega)|fail) only [↓yp,yq0,yq1,yq2,yq3,yq4,yl,ys0,ys1,seval,zed,zee,zfr,zhw,ysu,yrg,ysv,ysw,ysx,ysz,ysa,cond_true,orZero,av,Option.isSome_none,Option.isSome_some]
   have f3 : Fr H ((((H2.alloc (.rw [.int .i64 0, .int .u64 0] 166 false [])).put H2.size (.rw [.int .i64 to, .int .u64 ((2 ^ tt.length - 1 : Nat) : Int)] 166 false [])).alloc (.rw [.int .i64 0, .int .i64 0, .bool false, .int .i64 0, .int .u64 0] 168 false [])).put (H2.size + 1) (.rw [.int .i64 ar.m, .int .i64 ar.i, .bool ar.b, .int .i64 ar.c, .int .u64 ar.d] 168 false [])) := Fr.put (Fr.allocd (Fr.put (Fr.allocd f12 _) (by omega) _) _) (by omega) _
   have b14 : ((((H2.alloc (.rw [.int .i64 0, .int .u64 0] 166 false [])).put H2.size (.rw [.int .i64 to, .int .u64 ((2 ^ tt.length - 1 : Nat) : Int)] 166 false [])).alloc (.rw [.int .i64 0, .int .i64 0, .bool false, .int .i64 0, .int .u64 0] 168 false [])).put (H2.size + 1) (.rw [.int .i64 ar.m, .int .i64 ar.i, .bool ar.b, .int .i64 ar.c, .int .u64 ar.d] 168 false [])).get H2.size = .rw [.int .i64 to, .int .u64 ((2 ^ tt.length - 1 : Nat) : Int)] 166 false [] := by
    rw [zdd (by omega), zdb (by first|omega|(simp only [yz]<;>omega)), zdc (by first|omega|(simp only [yz]<;>omega))]
   have b15 : ((((H2.alloc (.rw [.int .i64 0, .int .u64 0] 166 false [])).put H2.size (.rw [.int .i64 to, .int .u64 ((2 ^ tt.length - 1 : Nat) : Int)] 166 false [])).alloc (.rw [.int .i64 0, .int .i64 0, .bool false, .int .i64 0, .int .u64 0] 168 false [])).put (H2.size + 1) (.rw [.int .i64 ar.m, .int .i64 ar.i, .bool ar.b, .int .i64 ar.c, .int .u64 ar.d] 168 false [])).get (H2.size + 1) = .rw [.int .i64 ar.m, .int .i64 ar.i, .bool ar.b, .int .i64 ar.c, .int .u64 ar.d] 168 false [] := by
    rw [zdc (by first|omega|(simp only [yz]<;>omega))]
   have hmp3 : MpB (((((H2.alloc (.rw [.int .i64 0, .int .u64 0] 166 false [])).put H2.size (.rw [.int .i64 to, .int .u64 ((2 ^ tt.length - 1 : Nat) : Int)] 166 false [])).alloc (.rw [.int .i64 0, .int .i64 0, .bool false, .int .i64 0, .int .u64 0] 168 false [])).put (H2.size + 1) (.rw [.int .i64 ar.m, .int .i64 ar.i, .bool ar.b, .int .i64 ar.c, .int .u64 ar.d] 168 false [])).get km) (exTo l w ld (nxt (dnT tt)) (fr, 0) at₀ 241).F := by
    rw [zdd (by omega), zdb (by first|omega|(simp only [yz]<;>omega))]; exact hmp
   have sz3 : ((((H2.alloc (.rw [.int .i64 0, .int .u64 0] 166 false [])).put H2.size (.rw [.int .i64 to, .int .u64 ((2 ^ tt.length - 1 : Nat) : Int)] 166 false [])).alloc (.rw [.int .i64 0, .int .i64 0, .bool false, .int .i64 0, .int .u64 0] 168 false [])).put (H2.size + 1) (.rw [.int .i64 ar.m, .int .i64 ar.i, .bool ar.b, .int .i64 ar.c, .int .u64 ar.d] 168 false [])).size = H2.size + 2 := by simp only [zdf,zde]
   generalize ((((H2.alloc (.rw [.int .i64 0, .int .u64 0] 166 false [])).put H2.size (.rw [.int .i64 to, .int .u64 ((2 ^ tt.length - 1 : Nat) : Int)] 166 false [])).alloc (.rw [.int .i64 0, .int .i64 0, .bool false, .int .i64 0, .int .u64 0] 168 false [])).put (H2.size + 1) (.rw [.int .i64 ar.m, .int .i64 ar.i, .bool ar.b, .int .i64 ar.c, .int .u64 ar.d] 168 false [])) = H3 at f3 b14 b15 hmp3 sz3 ⊢
   obtain ⟨fl, v, H4, mm, hres, hLm, hr, f4, hff⟩ := resK_elim (Q := fun q v H' => RowL H' v ls H3.size ∧ Fr H3 H' ∧ (q = true → H' = H3)) (c121 (L := H3.size) (M := N + 19993) (km := km) t1 (by omega) hmp3 (Nat.le_refl _) (by omega) (by omega) fun q v H' h1 h2 h3 => ⟨h1, h2, h3⟩)
   simp only [kv] at hres
   have b154 : H4.get (H2.size + 1) = .rw [.int .i64 ar.m, .int .i64 ar.i, .bool ar.b, .int .i64 ar.c, .int .u64 ar.d] 168 false [] := by rw [f4.same _ (by omega)]; exact b15
   have b144 : H4.get H2.size = .rw [.int .i64 to, .int .u64 ((2 ^ tt.length - 1 : Nat) : Int)] 166 false [] := by rw [f4.same _ (by omega)]; exact b14
   have sz4 := f4.size
   cases fl with
   | true =>
    have := hff rfl
    subst this
    refine W_draw [] rfl (by kernel_rfl) (by kernel_rfl) (by first|omega|(simp only [yz]<;>omega)) ?_
    simp (disch:=first|(simp only [yk,seval];done)|omega|(simp only [yz]<;>omega)|fail) only [↓yp,yq0,yq1,yq2,yq3,yq4,yl,ys0,ys1,seval,zed,zee,zfr,zhw,ysu,yrg,ysv,ysw,ysx,ysz,ysa,b14,b15,hres,A_build st_bdS_166]
    exact ⟨⟨sameV_map, hr.sameV6, hr.sameV6⟩, f3.trans f4, .inr ⟨_, ls, _, rfl, hr.low (by omega), t2, t7, I.can _ _ hfl, hleast⟩⟩
   | false =>
    refine W_draw [4] rfl (by kernel_rfl) (by kernel_rfl) (by first|omega|(simp only [yz]<;>omega)) ?_
    simp (disch:=first|(simp only [yk,seval];done)|omega|(simp only [yz]<;>omega)|fail) only [↓yp,yq0,yq1,yq2,yq3,yq4,yl,ys0,ys1,seval,zed,zee,zfr,zhw,ysu,yrg,ysv,ysw,ysx,ysz,ysa,b14,b15,b144,b154,hres,A_build st_bdS_166]
    exact ⟨⟨⟨sameV_map, sameV_map⟩, hr.sameV6, hr.sameV6⟩, f3.trans f4, .inr ⟨_, ls, _, rfl, hr.low (by omega), t2, t7, I.can _ _ hfl, hleast⟩⟩
 ·rintro v H' ⟨f, ⟨rfl, h⟩ | ⟨u, ls, m, rfl, h1, h2, h3, h4, h5⟩⟩
  ·exact hn _ f h _
  ·exact hq _ _ _ _ _ f h1 h2 h3 h4 h5
 ·rintro v H' ⟨f, ⟨rfl, h⟩ | ⟨u, ls, m, rfl, h1, h2, h3, h4, h5⟩⟩ hg
  ·exact hn _ (Fr.refl H) h _
  ·refine hq _ _ _ _ _ (Fr.refl H) ⟨h1.nil, fun hne => ?_⟩ h2 h3 h4 h5
   obtain ⟨b, al, rfl, -⟩ := h1.cons hne
   cases hg
end
end Go.Am
namespace Go.Am
open Go.Proofs
variable {T : Tab} {P : Program} {N L : Nat} {H : AHeap} {Q : Bool → Value → AHeap → Prop}
structure Op (H : AHeap) (a : Option Addr) (cap : Nat) (t : List Int) : Prop where
 il : Il H a t
 op : t ≠ [] → (∃ b o kn, a = some ⟨b, o, none⟩ ∧ cap = OPEN + 1 ∧ known H ⟨b, o, none⟩ t.length 1 (OPEN + 1) = kn ∧ t.length ≤ kn) ∨ (∃ b o, a = some ⟨b, o, none⟩ ∧ cap < OPEN ∧ t.length ≤ cap)
theorem aSlice_shut {ty : TypeId} {tt : Operand → Option Value} {x : Operand} {hi : Option Operand} {z n cap j b o : Nat} (hz : esS T ty = some z) (hx : tt x = some (.slice (some ⟨b, o, none⟩) n cap)) (hh : abound tt hi = some (some (j : Int))) (hc : cap < OPEN) (hj : j ≤ cap) : aSlice T tt H ty x none hi none = some (.slice (some ⟨b, o, none⟩) j cap, H, H.size) := by
 obtain ⟨e, i, hu, hi', rfl⟩ := esS_split hz
 have h0 : Nat.blt cap OPEN = true := by
  have := Nat.ble_eq_true_of_le (Nat.succ_le_of_lt hc)
  exact this
 have hab : abounds n cap none (some (j : Int)) none = some (0, j, cap) := by
  delta abounds
  simp [hj]
 have hb : (bif Nat.beq cap 0 then 0 else 0 * i.size) = 0 := by cases Nat.beq cap 0 <;> simp
 unfold aSlice
 simp only [hx,hu,hh,show abound tt none = some none from rfl,hi',h0,cond_true,hab,Nat.sub_zero,hb,Nat.add_zero]
theorem Op.cut {H : AHeap} {a : Option Addr} {cap j : Nat} {t : List Int} {tt : Operand → Option Value} {ex : Exec} {x y : Operand} (hs : Op H a cap t) (hne : t ≠ []) (hx : tt x = some (.slice a t.length cap)) (hy : tt y = some (.int .i64 (j : Nat))) (hj : j ≤ t.length) (hL : L ≤ H.size) (hq : Q true (.slice a j cap) H) : A tabA P ex tt H L (.slice 52 x none (some y) none) Q := by
 rcases hs.op hne with ⟨b, o, kn, rfl, rfl, hk, hkn⟩ | ⟨b, o, rfl, h1, h2⟩
 ·exact A_sliceF (j := j) zir hx hy hk (by omega) hL hq
 ·exact A_slice_of (aSlice_shut zir hx (abound_int hy) h1 (by omega)) hL hq
theorem Il.take {a : Option Addr} {t : List Int} (h : Il H a t) (i : Nat) : Il H a (t.take i) := ⟨fun hne => by
 obtain ⟨b, o, c, h1, h2, h3, h4⟩ := h.get (fun h => by subst h; simp at hne)
 refine ⟨b, o, c, h1, h2, h3, fun j n hj => h4 j n ?_⟩
 rw [List.getElem?_take] at hj
 split at hj
 ·exact hj
 ·cases hj⟩
theorem nodup_take {t : List Int} {i : Nat} (hi : i < t.length) (h : (t.take i).Nodup) (hm : t[i] ∉ t.take i) : (t.take (i + 1)).Nodup := by
 rw [List.take_succ_eq_append_getElem hi]
 exact List.nodup_append.2 ⟨h, by simp, fun x hx y hy => by simp at hy; subst hy; exact fun e => hm (e ▸ hx)⟩
theorem nodup_not {t : List Int} {i : Nat} (hi : i < t.length) (hm : t[i] ∈ t.take i) : ¬ t.Nodup := fun h => by
 have h2 : (t.take (i + 1)).Nodup := h.sublist (List.take_sublist _ _)
 rw [List.take_succ_eq_append_getElem hi] at h2
 exact (List.nodup_append.1 h2).2.2 _ hm _ (by simp) rfl
set_option maxHeartbeats 1000000 in
theorem c113 {a : Option Addr} {cap : Nat} {t : List Int} (hs : Op H a cap t) (hl : t.length ≤ 6) :
  acall tabA (aexec tabA Try.prog (N + 200)) 113 [.slice a t.length cap] H = some (true, .bool (!decide t.Nodup), H, H.size) := by
 refine call_quiet (k := 18) (rs := [.tmp 2]) rfl fn_113 rfl rfl rfl ?_ rfl
 simp (disch:=first|(simp only [yk,seval];done)|omega|(simp only [yz]<;>omega)|fail) only [↓yp,yq0,yq1,yq2,yq3,yq4,yl,ys0,ys1,seval,zed,zee,zfr,zhw,ysu,yrg,ysv,ysw,ysx,ysz,ysa,lenV_slice zir]
 refine W_while (n := 18) 150 (fun k e H' => ∃ i : Nat, k = t.length - i ∧ i ≤ t.length ∧ gt 18 e 7 = .int .i64 (i : Nat) ∧ gt 18 e 6 = .int .i64 t.length ∧ gt 18 e 5 = .slice a t.length cap ∧ gt 18 e 0 = .slice a t.length cap ∧ H' = H ∧ (t.take i).Nodup)
  ?_ 6 t.length ⟨0, by omega, by omega, by simp (disch:=first|(simp only [yk,seval];done)|omega|(simp only [yz]<;>omega)|fail) only [yg,seval] <;> rfl, by simp (disch:=first|(simp only [yk,seval];done)|omega|(simp only [yz]<;>omega)|fail) only [yg,seval], by simp (disch:=first|(simp only [yk,seval];done)|omega|(simp only [yz]<;>omega)|fail) only [yg,seval], by simp (disch:=first|(simp only [yk,seval];done)|omega|(simp only [yz]<;>omega)|fail) only [yg,seval], rfl, by simp⟩ (by omega) (by omega)
 rintro M k e H' ⟨i, rfl, hi, g7, g6, g5, g0, rfl, hnd⟩
 simp (disch:=first|(simp only [yk,seval];done)|omega|(simp only [yz]<;>omega)|fail) only [↓yp,yq0,yq1,yq2,yq3,yq4,yl,ys0,ys1,seval,zed,zee,zfr,zhw,ysu,yrg,ysv,ysw,ysx,ysz,ysa,g7,g6]
 refine ⟨fun hA => ?_, fun hA => ?_⟩
 ·have hi' : i < t.length := by simpa using hA
  have hne : t ≠ [] := fun h => by rw [h] at hi'; simp at hi'
  obtain ⟨b, o, c, rfl, hc, hp⟩ := hs.il.c hne
  have q := hp i t[i] (by simp [hi'])
  have hw2 : w64 ((i : Int) + 1) = ((i + 1 : Nat) : Int) := by rw [w64_of (by omega)]; omega
  have hlen : (t.take i).length = i := by rw [List.length_take]; omega
  have hct := fun (N : Nat) => c57g (N := N) (cap := cap) (x := t[i]) (hs.il.take i) (by omega)
  rw [hlen] at hct
  simp (disch:=first|(simp only [yk,seval];done)|omega|(simp only [yz]<;>omega)|fail) only [↓yp,yq0,yq1,yq2,yq3,yq4,yl,ys0,ys1,seval,zed,zee,zfr,zhw,ysu,yrg,ysv,ysw,ysx,ysz,ysa,g7,g5,g0,A_indexSlice zir,hc,q,Nat.mul_one]
  refine hs.cut (j := i) hne (by simp (disch:=first|(simp only [yk,seval];done)|omega|(simp only [yz]<;>omega)|fail) only [↓yp,yq0,yq1,yq2,yq3,yq4,yl,ys0,ys1,seval,zed,zee,zfr,zhw,ysu,yrg,ysv,ysw,ysx,ysz,ysa,g0]) (by simp (disch:=first|(simp only [yk,seval];done)|omega|(simp only [yz]<;>omega)|fail) only [↓yp,yq0,yq1,yq2,yq3,yq4,yl,ys0,ys1,seval,zed,zee,zfr,zhw,ysu,yrg,ysv,ysw,ysx,ysz,ysa]) (by omega) (by first|omega|(simp only [yz]<;>omega)) ?_
  cases hD : decide (t[i] ∈ t.take i)
  ·simp (disch:=first|(simp only [yk,seval];done)|omega|(simp only [yz]<;>omega)|fail) only [↓yp,yq0,yq1,yq2,yq3,yq4,yl,ys0,ys1,seval,zed,zee,zfr,zhw,ysu,yrg,ysv,ysw,ysx,ysz,ysa,g7,hct,hD,hw2]
   refine ⟨t.length - (i + 1), by omega, i + 1, rfl, by omega, ?_, ?_, ?_, ?_, rfl, nodup_take hi' hnd (of_decide_eq_false hD)⟩
   ·simp (disch:=first|(simp only [yk,seval];done)|omega|(simp only [yz]<;>omega)|fail) only [yg,seval]
   ·simp (disch:=first|(simp only [yk,seval];done)|omega|(simp only [yz]<;>omega)|fail) only [yg,seval,g6]
   ·simp (disch:=first|(simp only [yk,seval];done)|omega|(simp only [yz]<;>omega)|fail) only [yg,seval,g5]
   ·simp (disch:=first|(simp only [yk,seval];done)|omega|(simp only [yz]<;>omega)|fail) only [yg,seval,g0]
  ·have hr : decide t.Nodup = false := decide_eq_false (nodup_not hi' (of_decide_eq_true hD))
   simp (disch:=first|(simp only [yk,seval];done)|omega|(simp only [yz]<;>omega)|fail) only [↓yp,yq0,yq1,yq2,yq3,yq4,yl,ys0,ys1,seval,zed,zee,zfr,zhw,ysu,yrg,ysv,ysw,ysx,ysz,ysa,hct,hD,hr,Bool.not_false]
 ·have hi' : i = t.length := by have := of_decide_eq_false hA; omega
  have hr : decide t.Nodup = true := decide_eq_true (by rw [hi', List.take_length] at hnd; exact hnd)
  simp (disch:=first|(simp only [yk,seval];done)|omega|(simp only [yz]<;>omega)|fail) only [↓yp,yq0,yq1,yq2,yq3,yq4,yl,ys0,ys1,seval,zed,zee,zfr,zhw,ysu,yrg,ysv,ysw,ysx,ysz,ysa,hr,Bool.not_true]
end Go.Am
namespace Go.Am
open Go.Proofs
variable {T : Tab} {P : Program} {N L : Nat} {H : AHeap} {Q : Bool → Value → AHeap → Prop}
theorem Op.fr {H' : AHeap} {ta : Option Addr} {tc : Nat} {t : List Int} (h : Op H ta tc t) (f : Fr H H') : Op H' ta tc t := ⟨h.il.fr f, fun hne => by
 rcases h.op hne with ⟨b, o, kn, h1, h2, h3, h4⟩ | h
 ·obtain ⟨b', o', c', h5, h6, -⟩ := h.il.get hne
  rw [h1] at h5
  cases h5
  refine .inl ⟨b, o, kn, h1, h2, ?_, h4⟩
  rw [← h3]
  unfold known
  simp only [f.same b h6]
 ·exact .inr h⟩
theorem Op.none : Op H none 0 [] := ⟨Il.nil, fun h => absurd rfl h⟩
section
variable {l : List Str} {C w ld fr m : Int} {a ta : Option Addr} {cap tc : Nat} {t : List Int}
theorem c82t {k₁ k₂ : Nat} {x : Int} (hs : Sl H a l) (hl : l.length ≤ 18) (h₁ : cellsOf (H.get k₁) = some [.int .i64 x]) (ht : Il H ta t) (htl : t.length ≤ 65) (h₂ : cellsOf (H.get k₂) = some [.int .i64 m]) :
  acall tabA (aexec tabA Try.prog (N + 450)) 82 [.agg ⟨[.int .i64 C, .slice a l.length cap]⟩, .agg ⟨[.int .i64 w, .int .i64 ld]⟩, .slice (some ⟨k₁, 0, none⟩) 1 1, .slice ta t.length tc, .slice (some ⟨k₂, 0, none⟩) 1 1] H = some (true, .int .i64 (asked C l w ld [x] t [m]), H, H.size) :=
 c82w (cs := [x]) (ss := t) (ms := [m]) hs hl (Il.one (lt_of_cells h₁) h₁) (by simp) ht htl (Il.one (lt_of_cells h₂) h₂) (by simp)
set_option maxHeartbeats 4000000 in
theorem c68v {sv : Value} (hs : Sl H a l) (hl : l.length ≤ 18) (hX : ∀ H', Fr H H' → Good C l ld → ExC H' l C w ld a cap sv (fun i => ((bitN t i : Nat) : Int)) (dnT t) (corT t.length)) (hln : ∀ H' : AHeap, lenV tabA H' 52 sv = some (.int .i64 (t.length : Nat))) (h113 : ∀ (N : Nat) (H' : AHeap), Fr H H' → acall tabA (aexec tabA Try.prog (N + 200)) 113 [sv] H' = some (true, .bool (!decide t.Nodup), H', H'.size)) (h82 : ∀ (N : Nat) (H' : AHeap) (k₁ k₂ : Nat), Fr H H' → cellsOf (H'.get k₁) = some [.int .i64 fr] → cellsOf (H'.get k₂) = some [.int .i64 m] → acall tabA (aexec tabA Try.prog (N + 450)) 82 [.agg ⟨[.int .i64 C, .slice a l.length cap]⟩, .agg ⟨[.int .i64 w, .int .i64 ld]⟩, .slice (some ⟨k₁, 0, none⟩) 1 1, sv, .slice (some ⟨k₂, 0, none⟩) 1 1] H' = some (true, .int .i64 (asked C l w ld [fr] t [m]), H', H'.size)) (htl : t.length ≤ 6) (hnd : t.Nodup) (h0 : asked C l w ld [fr] t [m] = 0) (hL : L ≤ H.size) {M : Nat} (hM : 21000 ≤ M)
  (hn : ∀ q H', (q = true → H' = H) → Fr H H' → (∀ m', ¬ CanS l w ld (nxt (dnT t)) (fr, 0) m m' (fr, ((2 ^ t.length - 1 : Nat) : Int))) → Q q (.tuple ⟨[.slice none 0 0, .int .i64 0, .int .i64 1]⟩) H')
  (hq : ∀ q v ls H' mm, (q = true → H' = H) → Fr H H' → RowL H' v ls H.size → Run l w ld (nxt (dnT t)) (fr, 0) m ls (fr, ((2 ^ t.length - 1 : Nat) : Int)) mm → ls.length ≤ 55 → CanS l w ld (nxt (dnT t)) (fr, 0) m mm (fr, ((2 ^ t.length - 1 : Nat) : Int)) → (∀ m', CanS l w ld (nxt (dnT t)) (fr, 0) m m' (fr, ((2 ^ t.length - 1 : Nat) : Int)) → mm ≤ m') → Q q (.tuple ⟨[v, .int .i64 mm, .int .i64 0]⟩) H') :
  resK (acall tabA (aexec tabA Try.prog M) 68 [.agg ⟨[.int .i64 C, .slice a l.length cap]⟩, .agg ⟨[.int .i64 w, .int .i64 ld]⟩, .int .i64 fr, .int .i64 m, sv] H) L Q := by
 obtain ⟨N, rfl⟩ : ∃ N, M = N + 21000 := ⟨M - 21000, by omega⟩
 refine call_some (R := fun v H' => Fr H H' ∧ ((v = .tuple ⟨[.slice none 0 0, .int .i64 0, .int .i64 1]⟩ ∧ ∀ m', ¬ CanS l w ld (nxt (dnT t)) (fr, 0) m m' (fr, ((2 ^ t.length - 1 : Nat) : Int))) ∨
   ∃ u ls mm, v = .tuple ⟨[u, .int .i64 mm, .int .i64 0]⟩ ∧ RowL H' u ls H.size ∧ Run l w ld (nxt (dnT t)) (fr, 0) m ls (fr, ((2 ^ t.length - 1 : Nat) : Int)) mm ∧ ls.length ≤ 55 ∧ CanS l w ld (nxt (dnT t)) (fr, 0) m mm (fr, ((2 ^ t.length - 1 : Nat) : Int)) ∧ (∀ m', CanS l w ld (nxt (dnT t)) (fr, 0) m m' (fr, ((2 ^ t.length - 1 : Nat) : Int)) → mm ≤ m')))
  (k := 41) (rs := [.tmp 10, .tmp 11, .tmp 12]) rfl fn_68 rfl rfl rfl hL ?_ ?_ ?_
 ·have hA := h113
  have h6 : decide ((t.length : Int) > 6) = false := by simp; omega
  simp (disch:=first|(simp only [yk,seval];done)|omega|(simp only [yz]<;>omega)|fail) only [↓yp,yq0,yq1,yq2,yq3,yq4,yl,ys0,ys1,seval,zed,zee,zfr,zhw,ysu,yrg,ysv,ysw,ysx,ysz,ysa,A_buildSlice st_brS_52_1]
  rw [h82 _ _ _ _ (by repeat first|exact Fr.refl _|assumption|refine Fr.allocd ?_ _|refine Fr.put ?_ (by first|omega|(simp only [yz]<;>omega)) _) (by simp (disch:=first|(simp only [yk,seval];done)|omega|(simp only [yz]<;>omega)|fail) only [yg,seval]) (by simp (disch:=first|(simp only [yk,seval];done)|omega|(simp only [yz]<;>omega)|fail) only [yg,seval])]
  rw [h0]
  obtain ⟨hc, hw, hd, hcs, hss, hms⟩ := asked_ok h0
  have g := good_of hc hd
  have hC := g.hC
  have hfr := hcs fr (by simp)
  have hm := hms m (by simp)
  simp (disch:=first|(simp only [yk,seval];done)|omega|(simp only [yz]<;>omega)|fail) only [↓yp,yq0,yq1,yq2,yq3,yq4,yl,ys0,ys1,seval,zed,zee,zfr,zhw,ysu,yrg,ysv,ysw,ysx,ysz,ysa,hln,h6]
  rw [hA _ _ (by repeat first|exact Fr.refl _|assumption|refine Fr.allocd ?_ _|refine Fr.put ?_ (by first|omega|(simp only [yz]<;>omega)) _)]
  have hnd' : decide t.Nodup = true := decide_eq_true hnd
  simp (disch:=first|(simp only [yk,seval];done)|omega|(simp only [yz]<;>omega)|fail) only [↓yp,yq0,yq1,yq2,yq3,yq4,yl,ys0,ys1,seval,zed,zee,zfr,zhw,ysu,yrg,ysv,ysw,ysx,ysz,ysa,hnd',Bool.not_true]
  refine c83q (hs.fr (by repeat first|exact Fr.refl _|assumption|refine Fr.allocd ?_ _|refine Fr.put ?_ (by first|omega|(simp only [yz]<;>omega)) _)).none_len (by first|omega|(simp only [yz]<;>omega)) (by omega) ?_
  intro b3 H3 fr3
  have f3 := fr3.size
  simp only [zde] at f3
  have fH : Fr H H3 := Fr.trans (by repeat first|exact Fr.refl _|assumption|refine Fr.allocd ?_ _|refine Fr.put ?_ (by first|omega|(simp only [yz]<;>omega)) _) fr3
  simp (disch:=first|(simp only [yk,seval];done)|omega|(simp only [yz]<;>omega)|fail) only [↓yp,yq0,yq1,yq2,yq3,yq4,yl,ys0,ys1,seval,zed,zee,zfr,zhw,ysu,yrg,ysv,ysw,ysx,ysz,ysa]
  refine c92v (fun _ f => hX _ (fH.trans f) g) hln htl g hl hm (by omega) (by omega) (by omega) ?_ ?_
  ·intro H4 f4 hno q
   have sz4 := f4.size
   simp (disch:=first|(simp only [yk,seval];done)|omega|(simp only [yz]<;>omega)|fail) only [↓yp,yq0,yq1,yq2,yq3,yq4,yl,ys0,ys1,seval,zed,zee,zfr,zhw,ysu,yrg,ysv,ysw,ysx,ysz,ysa]
   exact ⟨fH.trans f4, .inl hno⟩
  ·intro q v ls H4 mm f4 hr hrun h7 hcan hle
   have sz4 := f4.size
   simp (disch:=first|(simp only [yk,seval];done)|omega|(simp only [yz]<;>omega)|fail) only [↓yp,yq0,yq1,yq2,yq3,yq4,yl,ys0,ys1,seval,zed,zee,zfr,zhw,ysu,yrg,ysv,ysw,ysx,ysz,ysa]
   exact ⟨fH.trans f4, .inr ⟨v, ls, mm, rfl, hr.low (by omega), hrun, h7, hcan, hle⟩⟩
 ·rintro v H' ⟨f, ⟨rfl, h1⟩ | ⟨u, ls, mm, rfl, h2, h3, h4, h5, h6⟩⟩
  ·exact hn false _ (fun h => by cases h) f h1
  ·exact hq false _ _ _ _ (fun h => by cases h) f h2 h3 h4 h5 h6
 ·rintro v H' ⟨f, ⟨rfl, h1⟩ | ⟨u, ls, mm, rfl, h2, h3, h4, h5, h6⟩⟩ hg
  ·exact hn true _ (fun _ => rfl) (Fr.refl H) h1
  ·refine hq true _ _ _ _ (fun _ => rfl) (Fr.refl H) ⟨h2.nil, fun hne => ?_⟩ h3 h4 h5 h6
   obtain ⟨b, al, rfl, -⟩ := h2.cons hne
   cases hg
theorem c68 (hs : Sl H a l) (hl : l.length ≤ 18) (ho : Op H ta tc t) (htl : t.length ≤ 6) (hnd : t.Nodup) (h0 : asked C l w ld [fr] t [m] = 0) (hL : L ≤ H.size) {M : Nat} (hM : 21000 ≤ M)
  (hn : ∀ q H', (q = true → H' = H) → Fr H H' → (∀ m', ¬ CanS l w ld (nxt (dnT t)) (fr, 0) m m' (fr, ((2 ^ t.length - 1 : Nat) : Int))) → Q q (.tuple ⟨[.slice none 0 0, .int .i64 0, .int .i64 1]⟩) H')
  (hq : ∀ q v ls H' mm, (q = true → H' = H) → Fr H H' → RowL H' v ls H.size → Run l w ld (nxt (dnT t)) (fr, 0) m ls (fr, ((2 ^ t.length - 1 : Nat) : Int)) mm → ls.length ≤ 55 → CanS l w ld (nxt (dnT t)) (fr, 0) m mm (fr, ((2 ^ t.length - 1 : Nat) : Int)) → (∀ m', CanS l w ld (nxt (dnT t)) (fr, 0) m m' (fr, ((2 ^ t.length - 1 : Nat) : Int)) → mm ≤ m') → Q q (.tuple ⟨[v, .int .i64 mm, .int .i64 0]⟩) H') :
  resK (acall tabA (aexec tabA Try.prog M) 68 [.agg ⟨[.int .i64 C, .slice a l.length cap]⟩, .agg ⟨[.int .i64 w, .int .i64 ld]⟩, .int .i64 fr, .int .i64 m, .slice ta t.length tc] H) L Q := by
 exact c68v hs hl (fun _ f g => exCT (hs.fr f) (ho.il.fr f) htl g hl) (fun _ => lenV_slice zir) (fun N _ f => c113 (N := N) (ho.fr f) htl) (fun N _ _ _ f h1 h2 => c82t (hs.fr f) hl h1 (ho.il.fr f) (by omega) h2) htl hnd h0 hL hM hn hq
end
end Go.Am
namespace Go.Am
open Go.Proofs
def dnN (t vs : List Int) : Nat := vs.foldl (fun d v => d ||| bitN t v) 0
theorem dnN_app {t vs : List Int} {v : Int} : dnN t (vs ++ [v]) = dnN t vs ||| bitN t v := by unfold dnN; rw [List.foldl_append]; rfl
theorem bitN_test {t : List Int} {x : Int} {r : Nat} : (bitN t x).testBit r = decide (plc t x = some r) := by
 unfold bitN
 cases plc t x with
 | none => simp
 | some q => simp only [Nat.testBit_two_pow,Option.some.injEq]
theorem dn_test {t : List Int} {r : Nat} : ∀ (vs : List Int) (d : Nat), (vs.foldl (fun d v => d ||| bitN t v) d).testBit r = (d.testBit r || vs.any fun v => decide (plc t v = some r))
 | [], d => by simp
 | v :: vs, d => by
  rw [List.foldl_cons, dn_test vs, Nat.testBit_or, bitN_test, List.any_cons, Bool.or_assoc]
theorem dnN_test {t vs : List Int} {r : Nat} : (dnN t vs).testBit r = vs.any fun v => decide (plc t v = some r) := by
 unfold dnN
 rw [dn_test]
 simp
theorem plc_of {t : List Int} {r : Nat} (hnd : t.Nodup) (hr : r < t.length) : plc t t[r] = some r := by
 cases h : plc t t[r] with
 | none => exact absurd (List.getElem_mem hr) (plc_none h)
 | some q =>
  obtain ⟨hq, h2, -⟩ := plc_some h
  have hp := List.pairwise_iff_getElem.1 hnd
  have : q = r := by
   rcases Nat.lt_trichotomy q r with h3 | h3 | h3
   ·exact absurd h2 (hp q r hq hr h3)
   ·exact h3
   ·exact absurd h2.symm (hp r q hr hq h3)
  rw [this]
theorem dn_full {t vs : List Int} (hnd : t.Nodup) : dnN t vs = 2 ^ t.length - 1 ↔ ∀ s ∈ t, s ∈ vs := by
 constructor
 ·intro h s hs
  obtain ⟨r, hr, rfl⟩ := List.mem_iff_getElem.1 hs
  have h1 : (dnN t vs).testBit r = true := by rw [h, Nat.testBit_two_pow_sub_one]; exact decide_eq_true hr
  rw [dnN_test, List.any_eq_true] at h1
  obtain ⟨v, hv, h2⟩ := h1
  obtain ⟨_, h3, _⟩ := plc_some (of_decide_eq_true h2)
  rw [h3]; exact hv
 ·intro h
  apply Nat.eq_of_testBit_eq
  intro r
  rw [dnN_test, Nat.testBit_two_pow_sub_one]
  by_cases hr : r < t.length
  ·rw [decide_eq_true hr, List.any_eq_true]
   exact ⟨t[r], h _ (List.getElem_mem hr), decide_eq_true (plc_of hnd hr)⟩
  ·rw [decide_eq_false hr, List.any_eq_false]
   intro v _ h2
   obtain ⟨h3, -⟩ := plc_some (of_decide_eq_true h2)
   exact hr h3
section
variable {l : List Str} {C w ld fr a₀ m : Int} {t : List Int} {x : Stt}
theorem canS_vis (h : CanS l w ld (nxt (dnT t)) (fr, 0) a₀ m x) : ∃ vs, x.2 = ((dnN t vs : Nat) : Int) ∧ ∀ t', CanS l w ld (nxt (dnT t')) (fr, 0) a₀ m (x.1, ((dnN t' vs : Nat) : Int)) := by
 induction h with
 | start => exact ⟨[], rfl, fun t' => .start⟩
 | wait _ hm ih =>
  obtain ⟨vs, h1, h2⟩ := ih
  exact ⟨vs, h1, fun t' => (h2 t').wait hm⟩
 | @go m x i s b _ hx hi hm hs ih =>
  obtain ⟨vs, h1, h2⟩ := ih
  refine ⟨vs ++ [(i : Int)], ?_, fun t' => ?_⟩
  ·show dnT t x.2 i = _
   rw [h1, dnN_app]
   unfold dnT
   rw [Int.toNat_natCast]
  ·have h3 := (h2 t').go (b := b) hx hi hm hs
   have e : nxt (dnT t') (x.1, ((dnN t' vs : Nat) : Int)) i s b = (farL s b, ((dnN t' (vs ++ [(i : Int)]) : Nat) : Int)) := by
    unfold nxt dnT
    rw [Int.toNat_natCast, dnN_app]
   rw [e] at h3
   exact h3
theorem tour_less {t' : List Int} (h : CanS l w ld (nxt (dnT t)) (fr, 0) a₀ m (fr, ((2 ^ t.length - 1 : Nat) : Int))) (hnd : t.Nodup) (hnd' : t'.Nodup) (hsub : ∀ s ∈ t', s ∈ t) : CanS l w ld (nxt (dnT t')) (fr, 0) a₀ m (fr, ((2 ^ t'.length - 1 : Nat) : Int)) := by
 obtain ⟨vs, h1, h2⟩ := canS_vis h
 have h3 := (dn_full hnd).1 (Int.ofNat_inj.1 h1.symm)
 have h4 := (dn_full hnd').2 fun s hs => h3 s (hsub s hs)
 have h5 := h2 t'
 rw [h4] at h5
 exact h5
inductive Wlk (l : List Str) (w ld fr a₀ : Int) : List (Int × Bool) → Int → Int → Prop
 | nil : Wlk l w ld fr a₀ [] fr a₀
 | snoc {ls : List (Int × Bool)} {x m : Int} {i : Nat} {s : Str} {b : Bool} : Wlk l w ld fr a₀ ls x m → nearL s b = x → l[i]? = some s → mayL s b w ld = true → arriveL s b ld m ≠ -1 → Wlk l w ld fr a₀ (ls ++ [((i : Int), b)]) (farL s b) (arriveL s b ld m)
theorem Wlk.canS {ls : List (Int × Bool)} {y : Int} (h : Wlk l w ld fr a₀ ls y m) (g : Good C l ld) (h0 : 0 ≤ a₀) (ha : a₀ ≤ 240) : CanS l w ld (nxt (dnT t)) (fr, 0) a₀ m (y, ((dnN t (ls.map (·.1)) : Nat) : Int)) := by
 induction h with
 | nil => exact .start
 | @snoc ls y m i s b _ hx hi hm hs ih =>
  have h3 := ih.arr (b := b) g h0 ha hx hi hm hs
  have e : nxt (dnT t) (y, ((dnN t (ls.map (·.1)) : Nat) : Int)) i s b = (farL s b, ((dnN t ((ls ++ [((i : Int), b)]).map (·.1)) : Nat) : Int)) := by
   rw [List.map_append, List.map_cons, List.map_nil, dnN_app]
   unfold nxt dnT
   rw [Int.toNat_natCast]
  rw [e] at h3
  exact h3
end
end Go.Am
namespace Go.Am
open Go.Proofs
variable {T : Tab} {P : Program} {N L : Nat} {H : AHeap} {Q : Bool → Value → AHeap → Prop}
section
variable {l : List Str} {C w ld fr m : Int} {a : Option Addr} {r : Option Nat} {cap : Nat}
end
end Go.Am
namespace Go.Am
open Go.Proofs
variable {T : Tab} {P : Program} {N L : Nat} {H : AHeap} {Q : Bool → Value → AHeap → Prop}
structure RowN (H : AHeap) (v : Value) (t : List Int) (base top : Nat) : Prop where
 nil : t = [] → v = .slice none 0 0
 cons : t ≠ [] → ∃ b al, v = .slice (some ⟨b, 0, none⟩) t.length (OPEN + 1) ∧ base ≤ b ∧ b < top ∧ (∀ j ∈ al, base ≤ j ∧ j < top) ∧ H.get b = .rw (tv t) 3 true al
section
variable {base top : Nat} {H' H₁ : AHeap} {v : Value} {t : List Int}
theorem RowN.fr (R : RowN H v t base top) (f : ∀ k, base ≤ k → k < top → H'.get k = H.get k) : RowN H' v t base top := ⟨R.nil, fun h => by
 obtain ⟨b, al, h1, h2, h3, h4, h5⟩ := R.cons h
 exact ⟨b, al, h1, h2, h3, h4, by rw [f _ h2 h3]; exact h5⟩⟩
theorem RowN.up {top' : Nat} (R : RowN H v t base top) (h : top ≤ top') : RowN H v t base top' := ⟨R.nil, fun h' => by
 obtain ⟨b, al, h1, h2, h3, h4, h5⟩ := R.cons h'
 exact ⟨b, al, h1, h2, by omega, fun j hj => by have := h4 j hj; omega, h5⟩⟩
theorem num_appendT {bn cp : Nat} {x : Int} (hr : RowN H₁ v t base top) (hL : L ≤ base) (hs : base ≤ H₁.size) (ht : top ≤ H₁.size) (hn : srcCells H₁ ⟨bn, 0, none⟩ (1 * 1) = some [.int .i64 x]) (hl : t.length ≤ 100000)
  (hq : ∀ b al H₂, base ≤ b → b < H₂.size → (∀ j ∈ al, base ≤ j ∧ j < H₂.size ∧ j ≠ b) → H₂.get b = .rw (tv (t ++ [x])) 3 true al → H₁.size ≤ H₂.size → (∀ k, k < H₁.size → k < base ∨ top ≤ k → H₂.get k = H₁.get k) → Q false (.slice (some ⟨b, 0, none⟩) (t.length + 1) (OPEN + 1)) H₂) :
  apK tabA H₁ 52 v (.slice (some ⟨bn, 0, none⟩) 1 cp) L Q := by
 by_cases hne : t = []
 ·subst hne
  rw [hr.nil rfl, apK_nil st_apS_52 hn (by omega) (by omega) (by omega) rfl, zba _ (by omega)]
  exact hq _ [] _ hs (by rw [zde]; omega) (fun j hj => by simp at hj) (zda rfl) (by rw [zde]; omega) (fun k hk _ => zdb (by omega))
 ·obtain ⟨b₀, al, rfl, r2, r3, r4, r5⟩ := hr.cons hne
  rw [apK_more st_apS_52 hn (by omega) (by omega) (by omega) rfl r5 (by rw [tv_len]; omega) rfl, zba _ (le_minAl (by omega) (fun j hj => by have := r4 j hj; omega))]
  refine hq _ [b₀] _ (by omega) (by simp only [zde,zdf,zdg]; omega) (fun j hj => by simp only [List.mem_singleton] at hj; subst hj; simp only [zde,zdf,zdg]; omega) ?_ (by simp only [zde,zdf,zdg]; omega) (fun k hk hk2 => ?_)
  ·rw [zda (by simp only [zdf,zdg])]
   unfold tv
   rw [List.map_append]; rfl
  ·rw [zdb (by simp only [zdf,zdg]; omega), zdd (by omega), get_kill (fun hm => by have := r4 k hm; omega)]
end
def idx (n : Nat) : List Int := (List.range n).map fun i => ((i : Nat) : Int)
theorem idx_succ {n : Nat} : idx (n + 1) = idx n ++ [(n : Int)] := by unfold idx; rw [List.range_succ, List.map_append]; rfl
theorem swap_perm {t : List Int} {i k : Nat} (hi : i < t.length) (hk : k < t.length) : ((t.set i t[k]).set k t[i]).Perm t := List.set_set_perm hi hk
section
variable {k capb n : Nat} {ab : Option Addr} {bs : List Int}
structure ShI (H : AHeap) (k : Nat) (ab : Option Addr) (bs : List Int) (capb i : Nat) (t : List Int) (v : Value) (H' : AHeap) : Prop where
 chu : Chu H' k ab bs capb
 fx : FrX k H H'
 pm : t.Perm (idx i)
 row : RowN H' v t H.size H'.size
set_option maxHeartbeats 4000000 in
theorem c67 (h : Chu H k ab bs capb) (hL : L ≤ k) (hn : n ≤ 100) {M : Nat} (hM : 1000 ≤ M)
  (hq : ∀ f v t H', t.Perm (idx n) → RowN H' v t H.size H'.size → Chu H' k ab bs capb → FrX k H H' → Q f v H') :
  resK (acall tabA (aexec tabA Try.prog M) 67 [.pointer (some ⟨k, 0, none⟩), .int .i64 (n : Nat)] H) L Q := by
 obtain ⟨N, rfl⟩ : ∃ N, M = N + 1000 := ⟨M - 1000, by omega⟩
 have hlt := h.lt
 refine call_keep tabA_fr (k := 39) (rs := [.tmp 4]) (R := fun v H' => ∃ t, t.Perm (idx n) ∧ RowN H' v t H.size H'.size ∧ Chu H' k ab bs capb ∧ FrX k H H') rfl fn_67 rfl rfl rfl (by omega) ?_ ?_ ?_
 rotate_left
 ·rintro v H' ⟨t, h1, h2, h3, h4⟩
  exact hq _ _ _ _ h1 h2 h3 h4
 ·rintro v H' ⟨t, h1, h2, h3, h4⟩ hg _
  refine hq _ _ t _ h1 ⟨h2.nil, fun hne => ?_⟩ h (FrX.refl _ _)
  obtain ⟨b, al, rfl, -⟩ := h2.cons hne
  cases hg
 have hmx : (if (0 : Int) > (n : Int) then 0 else (n : Int)) = (n : Int) := if_neg (by omega)
 simp (disch:=first|(simp only [yk,seval];done)|omega|(simp only [yz]<;>omega)|fail) only [↓yp,yq0,yq1,yq2,yq3,yq4,yl,ys0,ys1,seval,zed,zee,zfr,zhw,ysu,yrg,ysv,ysw,ysx,ysz,ysa,A_max,mm_max,hmx]
 refine W_while (n := 39) 700 (fun q e H' => ∃ (i : Nat) (t : List Int) (v : Value), q = n - i ∧ i ≤ n ∧ gt 39 e 11 = .int .i64 (i : Nat) ∧ gt 39 e 10 = .int .i64 (n : Nat) ∧ gt 39 e 0 = .pointer (some ⟨k, 0, none⟩) ∧ gt 39 e 5 = v ∧ ShI H k ab bs capb i t v H')
  ?_ 100 n ⟨0, [], .slice none 0 0, by omega, by omega, by simp (disch:=first|(simp only [yk,seval];done)|omega|(simp only [yz]<;>omega)|fail) only [yg,seval] <;> rfl, by simp (disch:=first|(simp only [yk,seval];done)|omega|(simp only [yz]<;>omega)|fail) only [yg,seval], by simp (disch:=first|(simp only [yk,seval];done)|omega|(simp only [yz]<;>omega)|fail) only [yg,seval], by simp (disch:=first|(simp only [yk,seval];done)|omega|(simp only [yz]<;>omega)|fail) only [yg,seval], ⟨h, FrX.refl _ _, by unfold idx; simp, ⟨fun _ => rfl, fun h => absurd rfl h⟩⟩⟩ (by omega) (by omega)
 rintro M q e H' ⟨i, t, v, rfl, hi, g11, g10, g0, g5, I⟩
 have szI := I.fx.size
 simp (disch:=first|(simp only [yk,seval];done)|omega|(simp only [yz]<;>omega)|fail) only [↓yp,yq0,yq1,yq2,yq3,yq4,yl,ys0,ys1,seval,zed,zee,zfr,zhw,ysu,yrg,ysv,ysw,ysx,ysz,ysa,g11,g10]
 refine ⟨fun hA => ?_, fun hA => ?_⟩
 rotate_left
 ·have hi' : i = n := by have := of_decide_eq_false hA; omega
  subst hi'
  simp (disch:=first|(simp only [yk,seval];done)|omega|(simp only [yz]<;>omega)|fail) only [↓yp,yq0,yq1,yq2,yq3,yq4,yl,ys0,ys1,seval,zed,zee,zfr,zhw,ysu,yrg,ysv,ysw,ysx,ysz,ysa,g5]
  exact ⟨t, I.pm, I.row, I.chu, I.fx⟩
 have hi' : i < n := by have := of_decide_eq_true hA; omega
 have hlen : t.length = i := by rw [I.pm.length_eq]; unfold idx; simp
 have hw2 : w64 ((i : Int) + 1) = ((i + 1 : Nat) : Int) := by rw [w64_of (by omega)]; omega
 simp (disch:=first|(simp only [yk,seval];done)|omega|(simp only [yz]<;>omega)|fail) only [↓yp,yq0,yq1,yq2,yq3,yq4,yl,ys0,ys1,seval,zed,zee,zfr,zhw,ysu,yrg,ysv,ysw,ysx,ysz,ysa,g11,g5,A_buildSlice st_brS_52_1]
 have f1 : Fr H' (H'.alloc (.rw [.int .i64 (i : Nat)] 3 false [])) := by (repeat (first | exact Fr.refl _ | assumption | refine Fr.allocd ?_ _ | refine Fr.put ?_ (by first | omega | (simp only [yz] <;> omega)) _))
 refine num_appendT (x := (i : Int)) (top := H'.size) (I.row.fr fun j _ hj => f1.same j hj) (by omega) (by first|omega|(simp only [yz]<;>omega)) (by first|omega|(simp only [yz]<;>omega)) (by unfold srcCells; simp (disch:=first|(simp only [yk,seval];done)|omega|(simp only [yz]<;>omega)|fail) only [yg,seval,zda] <;> rfl) (by omega) ?_
 intro b al H9 hb0 hb1 hal hb9 sz9 old9
 simp only [zde] at sz9 old9
 have f9 : ∀ j, j < H.size → H9.get j = H'.get j := fun j hj => by
  rw [old9 j (by omega) (by omega)]
  exact f1.same j (by omega)
 have hc9 : Chu H9 k ab bs capb := h.low I.chu I.fx f9 (by omega)
 have fx9 : FrX k H H9 := ⟨by omega, fun j h1 h2 => by rw [f9 j h1]; exact I.fx.same j h1 h2⟩
 simp (disch:=first|(simp only [yk,seval];done)|omega|(simp only [yz]<;>omega)|fail) only [↓yp,yq0,yq1,yq2,yq3,yq4,yl,ys0,ys1,seval,zed,zee,zfr,zhw,ysu,yrg,ysv,ysw,ysx,ysz,ysa,g11,g0,hw2]
 refine c51 hc9 (by omega) (by omega) (by omega) ?_
 rintro f n1 H10 - ⟨p1, p2⟩ hc10 hx10 hs10
 obtain ⟨kn, rfl⟩ : ∃ kn : Nat, n1 = kn := ⟨n1.toNat, by omega⟩
 have hkn : kn < i + 1 := by omega
 have fx10 := fx9.trans hx10
 have b10 : H10.get b = .rw (tv (t ++ [(i : Int)])) 3 true al := by rw [hx10.same b hb1 (by omega)]; exact hb9
 obtain ⟨t', ht'⟩ : ∃ t', t' = t ++ [(i : Int)] := ⟨_, rfl⟩
 rw [← ht'] at b10
 have hl' : t'.length = i + 1 := by rw [ht']; simp [hlen]
 have hti : t'[i]'(by omega) = (i : Int) := by subst ht'; simp [← hlen]
 have pm' : t'.Perm (idx (i + 1)) := by rw [ht', idx_succ]; exact I.pm.append_right _
 obtain ⟨y, hy⟩ : ∃ y, t'[kn]'(by omega) = y := ⟨_, rfl⟩
 have e1 : (tv t')[i]? = some (.int .i64 (i : Nat)) := by unfold tv; rw [List.getElem?_map, List.getElem?_eq_getElem (by omega), hti]; rfl
 have e2 : (tv t')[kn]? = some (.int .i64 y) := by unfold tv; rw [List.getElem?_map, List.getElem?_eq_getElem (by omega), hy]; rfl
 have hfl : (tv t').length = i + 1 := by rw [tv_len, hl']
 have hfl2 : (tv (t'.set i y)).length = i + 1 := by rw [tv_len, List.length_set, hl']
 have hfit1 : decide (i + 1 ≤ i + 1) = true := by simp
 have hfit2 : decide (kn + 1 ≤ i + 1) = true := by simp; omega
 have hfit3 : decide (kn ≤ i) = true := decide_eq_true (by omega)
 have hN1 : zee i [.int .i64 y] (tv t') = tv (t'.set i y) := newC_tv (by omega)
 have hN2 : zee kn [.int .i64 (i : Nat)] (tv (t'.set i y)) = tv ((t'.set i y).set kn (i : Int)) := newC_tv (by rw [List.length_set]; omega)
 have hN1' : List.take i (tv t') ++ [Value.int .i64 y] ++ List.drop (i + 1) (tv t') = tv (t'.set i y) := hN1
 have hN2' : List.take kn (tv (t'.set i y)) ++ [Value.int .i64 (i : Nat)] ++ List.drop (kn + [Value.int .i64 (i : Nat)].length) (tv (t'.set i y)) = tv ((t'.set i y).set kn (i : Int)) := hN2
 have hmn : minAl b [] = b := rfl
 have hml : H.size ≤ minAl b al := le_minAl (by omega) (fun j hj => (hal j hj).1)
 simp (disch:=first|(simp only [yk,seval];done)|omega|(simp only [yz]<;>omega)|fail) only [↓yp,yq0,yq1,yq2,yq3,yq4,yl,ys0,ys1,seval,zed,zee,zfr,zhw,ysu,yrg,ysv,ysw,ysx,ysz,ysa,g11,A_indexSlice zir,b10,e1,e2,wrB_al,hfl,hfl2,hfit1,hfit2,hw2,Nat.mul_one,Nat.zero_add,hN1',hN2',hmn,hfit3]
 have hYe : List.take kn (tv (t'.set i y)) ++ [Value.int .i64 (i : Nat)] ++ List.drop (kn + 1) (tv (t'.set i y)) = tv ((t'.set i y).set kn (i : Int)) := hN2
 rw [hYe]
 have hsw := swap_perm (t := t') (i := i) (k := kn) (by omega) (by omega)
 rw [hti, hy] at hsw
 have hbs : b < H10.size := by omega
 have fF : ∀ (X Y : ABlk) (j : Nat), j < H.size → ((((H10.kill al).put b X).kill []).put b Y).get j = H10.get j := fun X Y j hj => by
  rw [zdd (by omega), get_kill (by simp), zdd (by omega), get_kill (fun hm => by have := (hal j hm).1; omega)]
 have fS : ∀ X Y : ABlk, ((((H10.kill al).put b X).kill []).put b Y).size = H10.size := fun X Y => by simp only [zdf,zdg]
 have hll : ((t'.set i y).set kn (i : Int)).length = i + 1 := by rw [List.length_set, List.length_set, hl']
 refine ⟨n - (i + 1), by omega, i + 1, (t'.set i y).set kn (i : Int), .slice (some ⟨b, 0, none⟩) (i + 1) (OPEN + 1), rfl, by omega, ?_, ?_, ?_, ?_, ⟨h.low hc10 fx10 (fun j hj => fF _ _ j hj) (by rw [fS]; omega), ⟨by rw [fS]; have := fx10.size; omega, fun j h1 h2 => by rw [fF _ _ j h1]; exact fx10.same j h1 h2⟩, hsw.trans pm', ⟨fun h0 => by rw [h0] at hll; simp at hll, fun _ => ⟨b, [], by rw [hll], hb0, by rw [fS]; omega, fun j hj => by simp at hj, zdc (by simp only [zdf,zdg]; omega)⟩⟩⟩⟩
 ·simp (disch:=first|(simp only [yk,seval];done)|omega|(simp only [yz]<;>omega)|fail) only [yg,seval]
 ·simp (disch:=first|(simp only [yk,seval];done)|omega|(simp only [yz]<;>omega)|fail) only [yg,seval,g10]
 ·simp (disch:=first|(simp only [yk,seval];done)|omega|(simp only [yz]<;>omega)|fail) only [yg,seval,g0]
 ·simp (disch:=first|(simp only [yk,seval];done)|omega|(simp only [yz]<;>omega)|fail) only [yg,seval,hlen]
end
end Go.Am
namespace Go.Am
open Go.Proofs
variable {T : Tab} {P : Program} {N L : Nat} {H : AHeap} {Q : Bool → Value → AHeap → Prop}
section
variable {a ab : Option Addr} {cap capb k : Nat} {bs : List Int} {l : List Str} {C w ld fr at₀ : Int}
end
end Go.Am
