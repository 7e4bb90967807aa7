import Derived.Test.YtdjklljbninmgaaT51
import Derived.Test.YtdjklljbninmgaaT48
set_option linter.unusedSimpArgs false
set_option linter.unusedVariables false
namespace Go.Am
open Go.Proofs
variable {T : Tab} {P : Program} {N L : Nat} {H : AHeap} {Q : Bool → Value → AHeap → Prop}
structure RowT (H : AHeap) (v : Value) (ls : List (Int × Bool)) (base top : Nat) : Prop where
  nil : ls = [] → v = .slice none 0 0
  cons : ls ≠ [] → ∃ b al, v = .slice (some ⟨b, 0, none⟩) ls.length (OPEN + 2) ∧ base ≤ b ∧ b < top ∧ (∀ j ∈ al, base ≤ j ∧ j < top) ∧ H.get b = .rw (lgs ls) 28 true al
section
variable {base top : Nat} {H' H₁ : AHeap} {v : Value} {ls : List (Int × Bool)}
theorem RowT.fr (R : RowT H v ls base top) (ht : top ≤ H.size) (f : ∀ k, base ≤ k → k < top → H'.get k = H.get k) : RowT H' v ls base top := ⟨R.nil, fun h => by
  obtain ⟨b, al, h1, h2, h3, h4, h5⟩ := R.cons h
  exact ⟨b, al, h1, h2, h3, h4, by rw [f _ h2 h3]; exact h5⟩⟩
theorem RowT.up {top' : Nat} (R : RowT H v ls base top) (h : top ≤ top') : RowT H v ls base top' := ⟨R.nil, fun h' => by
  obtain ⟨b, al, h1, h2, h3, h4, h5⟩ := R.cons h'
  exact ⟨b, al, h1, h2, by omega, fun j hj => by have := h4 j hj; omega, h5⟩⟩
theorem RowT.len (R : RowT H v ls base top) : ∃ c, v = .slice (match v with | .slice a _ _ => a | _ => none) ls.length c := by
  by_cases hne : ls = []
  · subst hne; exact ⟨0, by rw [R.nil rfl]; rfl⟩
  · obtain ⟨b, al, rfl, -⟩ := R.cons hne
    exact ⟨_, rfl⟩
theorem RowT.sameV6 (R : RowT H v ls base top) : sameV 6 v v = true := by
  by_cases h : ls = []
  · rw [R.nil h]; unfold sameV; simp
  · obtain ⟨b, al, rfl, -⟩ := R.cons h
    unfold sameV; simp
theorem Chu.low {H₂ H₉ : AHeap} {k cap : Nat} {a : Option Addr} {bs : List Int} (h : Chu H k a bs cap) (h2 : Chu H₂ k a bs cap) (f : FrX k H H₂) (hb : ∀ j, j < H.size → H₉.get j = H₂.get j) (hs : H₂.size ≤ H₉.size) : Chu H₉ k a bs cap where
  lt := Nat.lt_of_lt_of_le h2.lt hs
  blk := by rw [hb k h.lt]; exact h2.blk
  row hne := by
    obtain ⟨b, o, c, h1, h3, h4, h5⟩ := h.row hne
    obtain ⟨u, s, hk, -⟩ := h.blk
    have hbk : b ≠ k := fun e => by rw [e, hk] at h4; cases h4
    exact ⟨b, o, c, h1, by have := f.size; omega, by rw [hb b h3, f.same b h3 hbk]; exact h4, h5⟩
  byte := h.byte
  len := h.len
theorem leg_appendT {bn cp : Nat} {i : Int} {b : Bool} (hr : RowT H₁ v ls base top) (hL : L ≤ base) (hs : base ≤ H₁.size) (ht : top ≤ H₁.size) (hn : srcCells H₁ ⟨bn, 0, none⟩ (1 * 2) = some [.int .i64 i, .bool b]) (hl : ls.length ≤ 100000)
    (hq : ∀ v H₂, RowT H₂ v (ls ++ [(i, b)]) base H₂.size → H₁.size ≤ H₂.size → (∀ k, k < H₁.size → k < base ∨ top ≤ k → H₂.get k = H₁.get k) → Q false v H₂) :
    apK tabA H₁ 65 v (.slice (some ⟨bn, 0, none⟩) 1 cp) L Q := by
  by_cases hne : ls = []
  · subst hne
    rw [hr.nil rfl, apK_nil st_apS_65 hn (by omega) (by omega) (by omega) rfl, zba _ (by omega)]
    exact hq _ _ ⟨fun h => by simp at h, fun _ => ⟨H₁.size, [], rfl, hs, by rw [zde]; omega, fun j hj => by simp at hj, zda rfl⟩⟩ (by rw [zde]; omega) (fun k hk _ => zdb (by omega))
  · obtain ⟨b₀, al, rfl, r2, r3, r4, r5⟩ := hr.cons hne
    rw [apK_more st_apS_65 hn (by omega) (by omega) (by omega) rfl r5 (by rw [lgs_len]) rfl, zba _ (le_minAl (by omega) (fun j hj => by have := r4 j hj; omega))]
    refine hq _ _ ⟨fun h => by simp at h, fun _ => ⟨H₁.size, [b₀], by rw [List.length_append]; rfl, hs, by simp only [zde,zdf,zdg]; omega, fun j hj => by simp only [List.mem_singleton] at hj; subst hj; simp only [zde,zdf,zdg]; omega, ?_⟩⟩ (by simp only [zde,zdf,zdg]; omega) (fun k hk hk2 => ?_)
    · rw [zda (by simp only [zdf,zdg]), lgs_app]; rfl
    · rw [zdb (by simp only [zdf,zdg]; omega), zdd (by omega), get_kill (fun hm => by have := r4 k hm; omega)]
end
section
variable {a ab : Option Addr} {cap capb k : Nat} {bs : List Int} {l : List Str} {C w ld fr at₀ : Int}
theorem Can.arr {m : Int} {x : Int} {i : Nat} {s : Str} {b : Bool} (h : Can l w ld fr at₀ m x) (g : Good C l ld) (h0 : 0 ≤ at₀) (ha : at₀ ≤ 240) (hx : nearL s b = x) (hi : l[i]? = some s) (hm : mayL s b w ld = true) (hs : arriveL s b ld m ≠ -1) : Can l w ld fr at₀ (arriveL s b ld m) (farL s b) :=
  (canS_can (x := (farL s b, 0)) ((can_canS h).arr g h0 ha hx hi hm hs)).2
structure DrI (H : AHeap) (k : Nat) (ab : Option Addr) (bs : List Int) (capb : Nat) (C w ld fr at₀ : Int) (l : List Str) (a : Option Addr) (cap : Nat) (x m : Int) (ls : List (Int × Bool)) (v : Value) (H' : AHeap) : Prop where
  chu : Chu H' k ab bs capb
  fx : FrX k H H'
  b7 : H'.get H.size = .rw [.int .i64 C, .slice a l.length cap] 24 false []
  b8 : H'.get (H.size + 1) = .rw [.int .i64 w, .int .i64 ld] 26 false []
  sz : H.size + 2 ≤ H'.size
  can : Can l w ld fr at₀ m x
  row : RowT H' v ls (H.size + 2) H'.size
set_option maxHeartbeats 4000000 in
set_option maxRecDepth 10000 in
theorem c54 (h : Chu H k ab bs capb) (hs : Sl H a l) (hL : L ≤ k) (hC : 1 ≤ C ∧ C ≤ 8) (hl : l.length ≤ 16) (ho : ∀ s ∈ l, OkS C s) (hw : 1 ≤ w ∧ w ≤ 9) (hd : 0 ≤ ld ∧ ld ≤ 9) (hm : 0 ≤ at₀ ∧ at₀ ≤ 240) {M : Nat} (hM : 1500 ≤ M)
    (hq : ∀ f v x m H', Can l w ld fr at₀ m x → Chu H' k ab bs capb → FrX k H H' → Q f (.tuple ⟨[v, .int .i64 x, .int .i64 m]⟩) H') :
    resK (acall tabA (aexec tabA Try.prog M) 54 [.pointer (some ⟨k, 0, none⟩), .agg ⟨[.int .i64 C, .slice a l.length cap]⟩, .agg ⟨[.int .i64 w, .int .i64 ld]⟩, .int .i64 fr, .int .i64 at₀, .int .i64 7] H) L Q := by
  obtain ⟨N, rfl⟩ : ∃ N, M = N + 1500 := ⟨M - 1500, by omega⟩
  have hlt := h.lt
  have g : Good C l ld := good_of (chk_of hC hl ho) (off_iff.2 hd)
  refine call_keep tabA_fr (k := 92) (rs := [.tmp 12, .tmp 13, .tmp 14]) (R := fun v H' => ∃ u x m, v = .tuple ⟨[u, .int .i64 x, .int .i64 m]⟩ ∧ Can l w ld fr at₀ m x ∧ Chu H' k ab bs capb ∧ FrX k H H') rfl fn_54 rfl rfl rfl (by omega) ?_ ?_ ?_
  rotate_left
  · rintro v H' ⟨u, x, m, rfl, h1, h2, h3⟩
    exact hq _ _ _ _ _ h1 h2 h3
  · rintro v H' ⟨u, x, m, rfl, h1, h2, h3⟩ _ _
    exact hq _ _ _ _ _ h1 h (FrX.refl _ _)
  simp (disch := (first | (simp only [yk,seval]; done) | omega | (simp only [yz] <;> omega) | fail)) only [↓yp,yq0,yq1,yq2,yq3,yq4,yl,ys0,ys1,seval,zed,zee,zfr,zhw,ysu,yrg,ysv,ysw,ysx,ysz,ysa,show w64 (2 * 7) = 14 from rfl]
  refine W_while (n := 92) 1200 (fun q e H' => ∃ (i : Nat) (x m : Int) (ls : List (Int × Bool)) (v : Value), q = 14 - i ∧ i ≤ 14 ∧ gt 92 e 22 = .int .i64 (i : Nat) ∧ gt 92 e 21 = .int .i64 14 ∧ gt 92 e 0 = .pointer (some ⟨k, 0, none⟩) ∧ gt 92 e 3 = .int .i64 x ∧ gt 92 e 4 = .int .i64 m ∧ gt 92 e 5 = .int .i64 7 ∧ gt 92 e 7 = .pointer (some ⟨H.size, 0, none⟩) ∧ gt 92 e 8 = .pointer (some ⟨H.size + 1, 0, none⟩) ∧ gt 92 e 15 = v ∧ DrI H k ab bs capb C w ld fr at₀ l a cap x m ls v H' ∧ ls.length ≤ i)
    ?_ 14 14 ⟨0, fr, at₀, [], .slice none 0 0, by omega, by omega, by simp (disch := (first | (simp only [yk,seval]; done) | omega | (simp only [yz] <;> omega) | fail)) only [yg,seval] <;> rfl, by simp (disch := (first | (simp only [yk,seval]; done) | omega | (simp only [yz] <;> omega) | fail)) only [yg,seval,show w64 14 = 14 from rfl], by simp (disch := (first | (simp only [yk,seval]; done) | omega | (simp only [yz] <;> omega) | fail)) only [yg,seval], by simp (disch := (first | (simp only [yk,seval]; done) | omega | (simp only [yz] <;> omega) | fail)) only [yg,seval], by simp (disch := (first | (simp only [yk,seval]; done) | omega | (simp only [yz] <;> omega) | fail)) only [yg,seval], by simp (disch := (first | (simp only [yk,seval]; done) | omega | (simp only [yz] <;> omega) | fail)) only [yg,seval], by simp (disch := (first | (simp only [yk,seval]; done) | omega | (simp only [yz] <;> omega) | fail)) only [yg,seval], by simp (disch := (first | (simp only [yk,seval]; done) | omega | (simp only [yz] <;> omega) | fail)) only [yg,seval], by simp (disch := (first | (simp only [yk,seval]; done) | omega | (simp only [yz] <;> omega) | fail)) only [yg,seval], ⟨h.fr (by (repeat (first | exact Fr.refl _ | assumption | refine Fr.allocd ?_ _ | refine Fr.put ?_ (by first | omega | (simp only [yz] <;> omega)) _))), FrX.of (by (repeat (first | exact Fr.refl _ | assumption | refine Fr.allocd ?_ _ | refine Fr.put ?_ (by first | omega | (simp only [yz] <;> omega)) _))), by simp (disch := (first | (simp only [yk,seval]; done) | omega | (simp only [yz] <;> omega) | fail)) only [yg,seval], by simp (disch := (first | (simp only [yk,seval]; done) | omega | (simp only [yz] <;> omega) | fail)) only [yg,seval], by (first | omega | (simp only [yz] <;> omega)), .start, ⟨fun _ => rfl, fun h => absurd rfl h⟩⟩, by simp⟩ (by omega) (by omega)
  rintro M q e H' ⟨i, x, m, ls, v, rfl, hi, g22, g21, g0, g3, g4, g5, g7, g8, g15, I, hlen⟩
  have szI := I.sz
  have b7 := I.b7
  have b8 := I.b8
  simp (disch := (first | (simp only [yk,seval]; done) | omega | (simp only [yz] <;> omega) | fail)) only [↓yp,yq0,yq1,yq2,yq3,yq4,yl,ys0,ys1,seval,zed,zee,zfr,zhw,ysu,yrg,ysv,ysw,ysx,ysz,ysa,g22,g21]
  refine ⟨fun hA => ?_, fun hA => ?_⟩
  rotate_left
  · simp (disch := (first | (simp only [yk,seval]; done) | omega | (simp only [yz] <;> omega) | fail)) only [↓yp,yq0,yq1,yq2,yq3,yq4,yl,ys0,ys1,seval,zed,zee,zfr,zhw,ysu,yrg,ysv,ysw,ysx,ysz,ysa,g15,g3,g4]
    exact ⟨v, x, m, rfl, I.can, I.chu, I.fx⟩
  have hw2 : w64 ((i : Int) + 1) = ((i + 1 : Nat) : Int) := by have := of_decide_eq_true hA; rw [w64_of (by omega)]; omega
  obtain ⟨cv, hcv⟩ := I.row.len
  generalize (match v with | .slice a _ _ => a | _ => none) = av at hcv
  subst hcv
  have hmle := I.can.le hm.2 g
  simp (disch := (first | (simp only [yk,seval]; done) | omega | (simp only [yz] <;> omega) | fail)) only [↓yp,yq0,yq1,yq2,yq3,yq4,yl,ys0,ys1,seval,zed,zee,zfr,zhw,ysu,yrg,ysv,ysw,ysx,ysz,ysa,g7,b7,lenV_slice zio,g15,lenV_slice st_esS_65,g5]
  refine ⟨fun hB => ?_, fun hB => ?_⟩
  · simp (disch := (first | (simp only [yk,seval]; done) | omega | (simp only [yz] <;> omega) | fail)) only [↓yp,yq0,yq1,yq2,yq3,yq4,yl,ys0,ys1,seval,zed,zee,zfr,zhw,ysu,yrg,ysv,ysw,ysx,ysz,ysa,hB,g15,g3,g4]
    exact ⟨_, x, m, rfl, I.can, I.chu, I.fx⟩
  simp (disch := (first | (simp only [yk,seval]; done) | omega | (simp only [yz] <;> omega) | fail)) only [↓yp,yq0,yq1,yq2,yq3,yq4,yl,ys0,ys1,seval,zed,zee,zfr,zhw,ysu,yrg,ysv,ysw,ysx,ysz,ysa,hB,g7,b7,lenV_slice zio,g15,lenV_slice st_esS_65,g5]
  refine ⟨fun hD => ?_, fun hD => ?_⟩
  · simp (disch := (first | (simp only [yk,seval]; done) | omega | (simp only [yz] <;> omega) | fail)) only [↓yp,yq0,yq1,yq2,yq3,yq4,yl,ys0,ys1,seval,zed,zee,zfr,zhw,ysu,yrg,ysv,ysw,ysx,ysz,ysa,g15,g3,g4]
    exact ⟨_, x, m, rfl, I.can, I.chu, I.fx⟩
  have hl0 : 0 < l.length := by have := of_decide_eq_false hB; omega
  simp (disch := (first | (simp only [yk,seval]; done) | omega | (simp only [yz] <;> omega) | fail)) only [↓yp,yq0,yq1,yq2,yq3,yq4,yl,ys0,ys1,seval,zed,zee,zfr,zhw,ysu,yrg,ysv,ysw,ysx,ysz,ysa,g0,g7,b7,lenV_slice zio]
  refine c51 I.chu (by omega) (by omega) (by omega) ?_
  rintro f1 n1 H1 - ⟨p1, p2⟩ hc1 hx1 hs1
  simp (disch := (first | (simp only [yk,seval]; done) | omega | (simp only [yz] <;> omega) | fail)) only [↓yp,yq0,yq1,yq2,yq3,yq4,yl,ys0,ys1,seval,zed,zee,zfr,zhw,ysu,yrg,ysv,ysw,ysx,ysz,ysa,g0]
  refine c96 hc1 (by omega) (by omega) (by omega) ?_
  rintro f2 bk H2 hc2 hx2 hs2
  have fx12 := hx1.trans hx2
  have fxA := I.fx.trans fx12
  have c7 := (fx12.same H.size (by omega) (by omega)).trans b7
  have c8 := (fx12.same (H.size + 1) (by omega) (by omega)).trans b8
  have sl2 : Sl H2 a l := hs.frx h fxA
  obtain ⟨ln, rfl⟩ : ∃ ln : Nat, n1 = ln := ⟨n1.toNat, by omega⟩
  have hln : ln < l.length := by omega
  obtain ⟨s, hsl⟩ : ∃ s, l[ln]? = some s := ⟨l[ln], by simp [hln]⟩
  obtain ⟨bb, o, c, rfl, hb1, hcc, hp⟩ := sl2.get (fun h => by rw [h] at hl0; simp at hl0)
  have hpi := hp ln s hsl
  simp only [Str.enc] at hpi
  simp (disch := (first | (simp only [yk,seval]; done) | omega | (simp only [yz] <;> omega) | fail)) only [↓yp,yq0,yq1,yq2,yq3,yq4,yl,ys0,ys1,seval,zed,zee,zfr,zhw,ysu,yrg,ysv,ysw,ysx,ysz,ysa,g7,c7,A_indexSlice zio,A_build st_bdS_28,hcc,hpi]
  have f3 : Fr H2 ((H2.alloc (.rw [.int .i64 0, .bool false] 28 false [])).put H2.size (.rw [.int .i64 (ln : Nat), .bool bk] 28 false [])) := by (repeat (first | exact Fr.refl _ | assumption | refine Fr.allocd ?_ _ | refine Fr.put ?_ (by first | omega | (simp only [yz] <;> omega)) _))
  have hms : asked C l w ld [] [(ln : Int)] [m] = 0 := asked_of (chk_of hC hl ho) (off_iff.2 hw) (off_iff.2 hd) (by simp) (by simp; omega) (by simp; omega)
  have hf := g.fit (List.mem_of_getElem? hsl)
  have hpv : passV C l w ld ln bk m = if pasL s bk w ld m = -1 then (0, 1) else (pasL s bk w ld m, 0) := by
    unfold passV pasL
    rw [if_neg (by simpa using hms)]
    simp only [Int.toNat_natCast,hsl]
    cases hmy : mayL s bk w ld
    · simp
    · simp
  have h25 := fun (N : Nat) (H'' : AHeap) (f : Fr H2 H'') => c25 (N := N) (C := C) (w := w) (ld := ld) (li := (ln : Int)) (m := m) (b := bk) (cap := cap) (sl2.fr f) (by omega)
  rw [hpv] at h25
  simp only [legV] at h25
  have hchu3 : ∀ H'' : AHeap, Fr H2 H'' → Chu H'' k ab bs capb := fun H'' f => hc2.fr f
  have rowA : ∀ H'' : AHeap, Fr H2 H'' → RowT H'' (.slice av ls.length cv) ls (H.size + 2) H'.size := fun H'' f => I.row.fr (Nat.le_refl _) fun q h1 h2 => by rw [f.same q (by omega), fx12.same q h2 (by omega)]
  have next : ∀ (e' : VT) (H'' : AHeap), Fr H2 H'' → Keep 92 [0, 3, 4, 5, 7, 8, 15, 21] e e' → gt 92 e' 22 = .int .i64 ((i + 1 : Nat) : Int) → ∃ q', q' < 14 - i ∧ ∃ (i : Nat) (x m : Int) (ls : List (Int × Bool)) (v : Value), q' = 14 - i ∧ i ≤ 14 ∧ gt 92 e' 22 = .int .i64 (i : Nat) ∧ gt 92 e' 21 = .int .i64 14 ∧ gt 92 e' 0 = .pointer (some ⟨k, 0, none⟩) ∧ gt 92 e' 3 = .int .i64 x ∧ gt 92 e' 4 = .int .i64 m ∧ gt 92 e' 5 = .int .i64 7 ∧ gt 92 e' 7 = .pointer (some ⟨H.size, 0, none⟩) ∧ gt 92 e' 8 = .pointer (some ⟨H.size + 1, 0, none⟩) ∧ gt 92 e' 15 = v ∧ DrI H k ab bs capb C w ld fr at₀ l (some ⟨bb, o, none⟩) cap x m ls v H'' ∧ ls.length ≤ i := by
    intro e' H'' f kp q22
    have sf := f.size
    have hA' := of_decide_eq_true hA
    exact ⟨14 - (i + 1), by omega, i + 1, x, m, ls, _, rfl, by omega, q22, (kp 21 (by simp)).trans g21, (kp 0 (by simp)).trans g0, (kp 3 (by simp)).trans g3, (kp 4 (by simp)).trans g4, (kp 5 (by simp)).trans g5, (kp 7 (by simp)).trans g7, (kp 8 (by simp)).trans g8, (kp 15 (by simp)).trans g15, ⟨hc2.fr f, fxA.trans (FrX.of f), (f.same _ (by omega)).trans c7, (f.same _ (by omega)).trans c8, by omega, I.can, (rowA _ f).up (by omega)⟩, by omega⟩
  have s12 := fx12.size
  cases bk
  · have hnr : nearL s false = s.fr := rfl
    have hfa : farL s false = s.to := rfl
    simp (disch := (first | (simp only [yk,seval]; done) | omega | (simp only [yz] <;> omega) | fail)) only [↓yp,yq0,yq1,yq2,yq3,yq4,yl,ys0,ys1,seval,zed,zee,zfr,zhw,ysu,yrg,ysv,ysw,ysx,ysz,ysa]
    simp (disch := (first | (simp only [yk,seval]; done) | omega | (simp only [yz] <;> omega) | fail)) only [↓yp,yq0,yq1,yq2,yq3,yq4,yl,ys0,ys1,seval,zed,zee,zfr,zhw,ysu,yrg,ysv,ysw,ysx,ysz,ysa,g4,g7,g8,c7,c8]
    rw [h25 _ _ (by (repeat (first | exact Fr.refl _ | assumption | refine Fr.allocd ?_ _ | refine Fr.put ?_ (by first | omega | (simp only [yz] <;> omega)) _)))]
    by_cases hpas : pasL s false w ld m = -1
    · rw [if_pos hpas]
      by_cases hx : s.fr = x
      · have hd1 : decide (s.fr = x) = true := decide_eq_true hx
        simp (disch := (first | (simp only [yk,seval]; done) | omega | (simp only [yz] <;> omega) | fail)) only [↓yp,yq0,yq1,yq2,yq3,yq4,yl,ys0,ys1,seval,zed,zee,zfr,zhw,ysu,yrg,ysv,ysw,ysx,ysz,ysa,g3,hd1]
        simp (disch := (first | (simp only [yk,seval]; done) | omega | (simp only [yz] <;> omega) | fail)) only [↓yp,yq0,yq1,yq2,yq3,yq4,yl,ys0,ys1,seval,zed,zee,zfr,zhw,ysu,yrg,ysv,ysw,ysx,ysz,ysa,g22,hw2]
        exact next _ _ (by (repeat (first | exact Fr.refl _ | assumption | refine Fr.allocd ?_ _ | refine Fr.put ?_ (by first | omega | (simp only [yz] <;> omega)) _))) (by (with_reducible (repeat (first | refine Keep.put ?_ (by decide) | refine Keep.none ?_ | assumption | exact Keep.refl _ _ _)))) (by simp (disch := (first | (simp only [yk,seval]; done) | omega | (simp only [yz] <;> omega) | fail)) only [yg,seval])
      · have hd1 : decide (s.fr = x) = false := decide_eq_false hx
        simp (disch := (first | (simp only [yk,seval]; done) | omega | (simp only [yz] <;> omega) | fail)) only [↓yp,yq0,yq1,yq2,yq3,yq4,yl,ys0,ys1,seval,zed,zee,zfr,zhw,ysu,yrg,ysv,ysw,ysx,ysz,ysa,g3,hd1]
        simp (disch := (first | (simp only [yk,seval]; done) | omega | (simp only [yz] <;> omega) | fail)) only [↓yp,yq0,yq1,yq2,yq3,yq4,yl,ys0,ys1,seval,zed,zee,zfr,zhw,ysu,yrg,ysv,ysw,ysx,ysz,ysa,g22,hw2]
        exact next _ _ (by (repeat (first | exact Fr.refl _ | assumption | refine Fr.allocd ?_ _ | refine Fr.put ?_ (by first | omega | (simp only [yz] <;> omega)) _))) (by (with_reducible (repeat (first | refine Keep.put ?_ (by decide) | refine Keep.none ?_ | assumption | exact Keep.refl _ _ _)))) (by simp (disch := (first | (simp only [yk,seval]; done) | omega | (simp only [yz] <;> omega) | fail)) only [yg,seval])
    · rw [if_neg hpas]
      have hpo := pas_ok hf (by omega) hpas
      have hmay : mayL s false w ld = true := by
        cases h' : mayL s false w ld with
        | true => rfl
        | false => unfold pasL at hpas; rw [h'] at hpas; exact absurd rfl hpas
      have hpe : pasL s false w ld m = arriveL s false ld m := by unfold pasL; rw [hmay]; rfl
      by_cases hx : s.fr = x
      rotate_left
      · have hd1 : decide (s.fr = x) = false := decide_eq_false hx
        simp (disch := (first | (simp only [yk,seval]; done) | omega | (simp only [yz] <;> omega) | fail)) only [↓yp,yq0,yq1,yq2,yq3,yq4,yl,ys0,ys1,seval,zed,zee,zfr,zhw,ysu,yrg,ysv,ysw,ysx,ysz,ysa,g3,hd1]
        simp (disch := (first | (simp only [yk,seval]; done) | omega | (simp only [yz] <;> omega) | fail)) only [↓yp,yq0,yq1,yq2,yq3,yq4,yl,ys0,ys1,seval,zed,zee,zfr,zhw,ysu,yrg,ysv,ysw,ysx,ysz,ysa,g22,hw2]
        exact next _ _ (by (repeat (first | exact Fr.refl _ | assumption | refine Fr.allocd ?_ _ | refine Fr.put ?_ (by first | omega | (simp only [yz] <;> omega)) _))) (by (with_reducible (repeat (first | refine Keep.put ?_ (by decide) | refine Keep.none ?_ | assumption | exact Keep.refl _ _ _)))) (by simp (disch := (first | (simp only [yk,seval]; done) | omega | (simp only [yz] <;> omega) | fail)) only [yg,seval])
      have hd1 : decide (s.fr = x) = true := decide_eq_true hx
      have hcan' : Can l w ld fr at₀ (pasL s false w ld m) (s.to) := by
        rw [hpe, ← hfa]
        exact I.can.arr g hm.1 hm.2 (hnr.trans hx) hsl hmay (by rw [← hpe]; exact hpas)
      generalize pasL s false w ld m = m' at hpas hpo hcan' hpe
      have hd2 : decide (m' ≤ m) = false := decide_eq_false (by omega)
      have hd3 : decide (240 < m') = false := decide_eq_false (by omega)
      simp (disch := (first | (simp only [yk,seval]; done) | omega | (simp only [yz] <;> omega) | fail)) only [↓yp,yq0,yq1,yq2,yq3,yq4,yl,ys0,ys1,seval,zed,zee,zfr,zhw,ysu,yrg,ysv,ysw,ysx,ysz,ysa,g3,g4,hd1,hd2,hd3]
      refine W_draw [2, 3] rfl (by kernel_rfl) (by kernel_rfl) (by (first | omega | (simp only [yz] <;> omega))) ?_
      simp (disch := (first | (simp only [yk,seval]; done) | omega | (simp only [yz] <;> omega) | fail)) only [↓yp,yq0,yq1,yq2,yq3,yq4,yl,ys0,ys1,seval,zed,zee,zfr,zhw,ysu,yrg,ysv,ysw,ysx,ysz,ysa,g15,A_buildSlice st_brS_65_1]
      refine leg_appendT (i := (ln : Int)) (b := false) (top := H'.size) (rowA _ (by (repeat (first | exact Fr.refl _ | assumption | refine Fr.allocd ?_ _ | refine Fr.put ?_ (by first | omega | (simp only [yz] <;> omega)) _)))) (by omega) (by (first | omega | (simp only [yz] <;> omega))) (by (first | omega | (simp only [yz] <;> omega))) (by unfold srcCells; simp (disch := (first | (simp only [yk,seval]; done) | omega | (simp only [yz] <;> omega) | fail)) only [yg,seval,zda] <;> rfl) (by omega) ?_
      intro v' H9 row9 sz9 old9
      simp only [zde,zdf] at sz9 old9
      have o16 := old9 H2.size (by omega) (by omega)
      have o17 := old9 (H2.size + 1) (by omega) (by omega)
      simp (disch := (first | (simp only [yk,seval]; done) | omega | (simp only [yz] <;> omega) | fail)) only [yg,seval] at o16 o17
      simp (disch := (first | (simp only [yk,seval]; done) | omega | (simp only [yz] <;> omega) | fail)) only [↓yp,yq0,yq1,yq2,yq3,yq4,yl,ys0,ys1,seval,zed,zee,zfr,zhw,ysu,yrg,ysv,ysw,ysx,ysz,ysa,g15,A_buildSlice st_brS_65_1,o16,o17]
      refine ⟨⟨row9.sameV6, row9.sameV6, row9.sameV6⟩, ?_⟩
      have f9 : ∀ j, j < H.size + 2 → H9.get j = H2.get j := fun j hj => by
        rw [old9 j (by omega) (by omega)]
        simp (disch := (first | (simp only [yk,seval]; done) | omega | (simp only [yz] <;> omega) | fail)) only [yg,seval]
      have hA' := of_decide_eq_true hA
      simp (disch := (first | (simp only [yk,seval]; done) | omega | (simp only [yz] <;> omega) | fail)) only [↓yp,yq0,yq1,yq2,yq3,yq4,yl,ys0,ys1,seval,zed,zee,zfr,zhw,ysu,yrg,ysv,ysw,ysx,ysz,ysa,g22,hw2]
      refine ⟨14 - (i + 1), by omega, i + 1, s.to, m', ls ++ [((ln : Int), false)], v', rfl, by omega, ?_, ?_, ?_, ?_, ?_, ?_, ?_, ?_, ?_, ⟨h.low hc2 fxA (fun j hj => f9 j (by omega)) (by omega), ⟨by have := fxA.size; omega, fun j h1 h2 => by rw [f9 j (by omega)]; exact fxA.same j h1 h2⟩, by rw [f9 _ (by omega)]; exact c7, by rw [f9 _ (by omega)]; exact c8, by omega, hcan', row9⟩, by rw [List.length_append]; simp; omega⟩
      · simp (disch := (first | (simp only [yk,seval]; done) | omega | (simp only [yz] <;> omega) | fail)) only [yg,seval]
      · simp (disch := (first | (simp only [yk,seval]; done) | omega | (simp only [yz] <;> omega) | fail)) only [yg,seval,g21]
      · simp (disch := (first | (simp only [yk,seval]; done) | omega | (simp only [yz] <;> omega) | fail)) only [yg,seval,g0]
      · simp (disch := (first | (simp only [yk,seval]; done) | omega | (simp only [yz] <;> omega) | fail)) only [yg,seval]
      · simp (disch := (first | (simp only [yk,seval]; done) | omega | (simp only [yz] <;> omega) | fail)) only [yg,seval]
      · simp (disch := (first | (simp only [yk,seval]; done) | omega | (simp only [yz] <;> omega) | fail)) only [yg,seval,g5]
      · simp (disch := (first | (simp only [yk,seval]; done) | omega | (simp only [yz] <;> omega) | fail)) only [yg,seval,g7]
      · simp (disch := (first | (simp only [yk,seval]; done) | omega | (simp only [yz] <;> omega) | fail)) only [yg,seval,g8]
      · simp (disch := (first | (simp only [yk,seval]; done) | omega | (simp only [yz] <;> omega) | fail)) only [yg,seval]
  · have hnr : nearL s true = s.to := rfl
    have hfa : farL s true = s.fr := rfl
    simp (disch := (first | (simp only [yk,seval]; done) | omega | (simp only [yz] <;> omega) | fail)) only [↓yp,yq0,yq1,yq2,yq3,yq4,yl,ys0,ys1,seval,zed,zee,zfr,zhw,ysu,yrg,ysv,ysw,ysx,ysz,ysa]
    simp (disch := (first | (simp only [yk,seval]; done) | omega | (simp only [yz] <;> omega) | fail)) only [↓yp,yq0,yq1,yq2,yq3,yq4,yl,ys0,ys1,seval,zed,zee,zfr,zhw,ysu,yrg,ysv,ysw,ysx,ysz,ysa,g4,g7,g8,c7,c8]
    rw [h25 _ _ (by (repeat (first | exact Fr.refl _ | assumption | refine Fr.allocd ?_ _ | refine Fr.put ?_ (by first | omega | (simp only [yz] <;> omega)) _)))]
    by_cases hpas : pasL s true w ld m = -1
    · rw [if_pos hpas]
      by_cases hx : s.to = x
      · have hd1 : decide (s.to = x) = true := decide_eq_true hx
        simp (disch := (first | (simp only [yk,seval]; done) | omega | (simp only [yz] <;> omega) | fail)) only [↓yp,yq0,yq1,yq2,yq3,yq4,yl,ys0,ys1,seval,zed,zee,zfr,zhw,ysu,yrg,ysv,ysw,ysx,ysz,ysa,g3,hd1]
        simp (disch := (first | (simp only [yk,seval]; done) | omega | (simp only [yz] <;> omega) | fail)) only [↓yp,yq0,yq1,yq2,yq3,yq4,yl,ys0,ys1,seval,zed,zee,zfr,zhw,ysu,yrg,ysv,ysw,ysx,ysz,ysa,g22,hw2]
        exact next _ _ (by (repeat (first | exact Fr.refl _ | assumption | refine Fr.allocd ?_ _ | refine Fr.put ?_ (by first | omega | (simp only [yz] <;> omega)) _))) (by (with_reducible (repeat (first | refine Keep.put ?_ (by decide) | refine Keep.none ?_ | assumption | exact Keep.refl _ _ _)))) (by simp (disch := (first | (simp only [yk,seval]; done) | omega | (simp only [yz] <;> omega) | fail)) only [yg,seval])
      · have hd1 : decide (s.to = x) = false := decide_eq_false hx
        simp (disch := (first | (simp only [yk,seval]; done) | omega | (simp only [yz] <;> omega) | fail)) only [↓yp,yq0,yq1,yq2,yq3,yq4,yl,ys0,ys1,seval,zed,zee,zfr,zhw,ysu,yrg,ysv,ysw,ysx,ysz,ysa,g3,hd1]
        simp (disch := (first | (simp only [yk,seval]; done) | omega | (simp only [yz] <;> omega) | fail)) only [↓yp,yq0,yq1,yq2,yq3,yq4,yl,ys0,ys1,seval,zed,zee,zfr,zhw,ysu,yrg,ysv,ysw,ysx,ysz,ysa,g22,hw2]
        exact next _ _ (by (repeat (first | exact Fr.refl _ | assumption | refine Fr.allocd ?_ _ | refine Fr.put ?_ (by first | omega | (simp only [yz] <;> omega)) _))) (by (with_reducible (repeat (first | refine Keep.put ?_ (by decide) | refine Keep.none ?_ | assumption | exact Keep.refl _ _ _)))) (by simp (disch := (first | (simp only [yk,seval]; done) | omega | (simp only [yz] <;> omega) | fail)) only [yg,seval])
    · rw [if_neg hpas]
      have hpo := pas_ok hf (by omega) hpas
      have hmay : mayL s true w ld = true := by
        cases h' : mayL s true w ld with
        | true => rfl
        | false => unfold pasL at hpas; rw [h'] at hpas; exact absurd rfl hpas
      have hpe : pasL s true w ld m = arriveL s true ld m := by unfold pasL; rw [hmay]; rfl
      by_cases hx : s.to = x
      rotate_left
      · have hd1 : decide (s.to = x) = false := decide_eq_false hx
        simp (disch := (first | (simp only [yk,seval]; done) | omega | (simp only [yz] <;> omega) | fail)) only [↓yp,yq0,yq1,yq2,yq3,yq4,yl,ys0,ys1,seval,zed,zee,zfr,zhw,ysu,yrg,ysv,ysw,ysx,ysz,ysa,g3,hd1]
        simp (disch := (first | (simp only [yk,seval]; done) | omega | (simp only [yz] <;> omega) | fail)) only [↓yp,yq0,yq1,yq2,yq3,yq4,yl,ys0,ys1,seval,zed,zee,zfr,zhw,ysu,yrg,ysv,ysw,ysx,ysz,ysa,g22,hw2]
        exact next _ _ (by (repeat (first | exact Fr.refl _ | assumption | refine Fr.allocd ?_ _ | refine Fr.put ?_ (by first | omega | (simp only [yz] <;> omega)) _))) (by (with_reducible (repeat (first | refine Keep.put ?_ (by decide) | refine Keep.none ?_ | assumption | exact Keep.refl _ _ _)))) (by simp (disch := (first | (simp only [yk,seval]; done) | omega | (simp only [yz] <;> omega) | fail)) only [yg,seval])
      have hd1 : decide (s.to = x) = true := decide_eq_true hx
      have hcan' : Can l w ld fr at₀ (pasL s true w ld m) (s.fr) := by
        rw [hpe, ← hfa]
        exact I.can.arr g hm.1 hm.2 (hnr.trans hx) hsl hmay (by rw [← hpe]; exact hpas)
      generalize pasL s true w ld m = m' at hpas hpo hcan' hpe
      have hd2 : decide (m' ≤ m) = false := decide_eq_false (by omega)
      have hd3 : decide (240 < m') = false := decide_eq_false (by omega)
      simp (disch := (first | (simp only [yk,seval]; done) | omega | (simp only [yz] <;> omega) | fail)) only [↓yp,yq0,yq1,yq2,yq3,yq4,yl,ys0,ys1,seval,zed,zee,zfr,zhw,ysu,yrg,ysv,ysw,ysx,ysz,ysa,g3,g4,hd1,hd2,hd3]
      refine W_draw [2, 3] rfl (by kernel_rfl) (by kernel_rfl) (by (first | omega | (simp only [yz] <;> omega))) ?_
      simp (disch := (first | (simp only [yk,seval]; done) | omega | (simp only [yz] <;> omega) | fail)) only [↓yp,yq0,yq1,yq2,yq3,yq4,yl,ys0,ys1,seval,zed,zee,zfr,zhw,ysu,yrg,ysv,ysw,ysx,ysz,ysa,g15,A_buildSlice st_brS_65_1]
      refine leg_appendT (i := (ln : Int)) (b := true) (top := H'.size) (rowA _ (by (repeat (first | exact Fr.refl _ | assumption | refine Fr.allocd ?_ _ | refine Fr.put ?_ (by first | omega | (simp only [yz] <;> omega)) _)))) (by omega) (by (first | omega | (simp only [yz] <;> omega))) (by (first | omega | (simp only [yz] <;> omega))) (by unfold srcCells; simp (disch := (first | (simp only [yk,seval]; done) | omega | (simp only [yz] <;> omega) | fail)) only [yg,seval,zda] <;> rfl) (by omega) ?_
      intro v' H9 row9 sz9 old9
      simp only [zde,zdf] at sz9 old9
      have o16 := old9 H2.size (by omega) (by omega)
      have o17 := old9 (H2.size + 1) (by omega) (by omega)
      simp (disch := (first | (simp only [yk,seval]; done) | omega | (simp only [yz] <;> omega) | fail)) only [yg,seval] at o16 o17
      simp (disch := (first | (simp only [yk,seval]; done) | omega | (simp only [yz] <;> omega) | fail)) only [↓yp,yq0,yq1,yq2,yq3,yq4,yl,ys0,ys1,seval,zed,zee,zfr,zhw,ysu,yrg,ysv,ysw,ysx,ysz,ysa,g15,A_buildSlice st_brS_65_1,o16,o17]
      refine ⟨⟨row9.sameV6, row9.sameV6, row9.sameV6⟩, ?_⟩
      have f9 : ∀ j, j < H.size + 2 → H9.get j = H2.get j := fun j hj => by
        rw [old9 j (by omega) (by omega)]
        simp (disch := (first | (simp only [yk,seval]; done) | omega | (simp only [yz] <;> omega) | fail)) only [yg,seval]
      have hA' := of_decide_eq_true hA
      simp (disch := (first | (simp only [yk,seval]; done) | omega | (simp only [yz] <;> omega) | fail)) only [↓yp,yq0,yq1,yq2,yq3,yq4,yl,ys0,ys1,seval,zed,zee,zfr,zhw,ysu,yrg,ysv,ysw,ysx,ysz,ysa,g22,hw2]
      refine ⟨14 - (i + 1), by omega, i + 1, s.fr, m', ls ++ [((ln : Int), true)], v', rfl, by omega, ?_, ?_, ?_, ?_, ?_, ?_, ?_, ?_, ?_, ⟨h.low hc2 fxA (fun j hj => f9 j (by omega)) (by omega), ⟨by have := fxA.size; omega, fun j h1 h2 => by rw [f9 j (by omega)]; exact fxA.same j h1 h2⟩, by rw [f9 _ (by omega)]; exact c7, by rw [f9 _ (by omega)]; exact c8, by omega, hcan', row9⟩, by rw [List.length_append]; simp; omega⟩
      · simp (disch := (first | (simp only [yk,seval]; done) | omega | (simp only [yz] <;> omega) | fail)) only [yg,seval]
      · simp (disch := (first | (simp only [yk,seval]; done) | omega | (simp only [yz] <;> omega) | fail)) only [yg,seval,g21]
      · simp (disch := (first | (simp only [yk,seval]; done) | omega | (simp only [yz] <;> omega) | fail)) only [yg,seval,g0]
      · simp (disch := (first | (simp only [yk,seval]; done) | omega | (simp only [yz] <;> omega) | fail)) only [yg,seval]
      · simp (disch := (first | (simp only [yk,seval]; done) | omega | (simp only [yz] <;> omega) | fail)) only [yg,seval]
      · simp (disch := (first | (simp only [yk,seval]; done) | omega | (simp only [yz] <;> omega) | fail)) only [yg,seval,g5]
      · simp (disch := (first | (simp only [yk,seval]; done) | omega | (simp only [yz] <;> omega) | fail)) only [yg,seval,g7]
      · simp (disch := (first | (simp only [yk,seval]; done) | omega | (simp only [yz] <;> omega) | fail)) only [yg,seval,g8]
      · simp (disch := (first | (simp only [yk,seval]; done) | omega | (simp only [yz] <;> omega) | fail)) only [yg,seval]
end
end Go.Am
