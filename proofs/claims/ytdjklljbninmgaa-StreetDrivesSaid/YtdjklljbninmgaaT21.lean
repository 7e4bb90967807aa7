/- Copies of towns. -/
import Derived.Test.YtdjklljbninmgaaT20
set_option linter.unusedSimpArgs false
set_option linter.unusedVariables false
namespace Go.Am
open Go.Proofs
variable {T : Tab} {P : Program} {N L : Nat} {H : AHeap} {Q : Bool → Value → AHeap → Prop}

theorem flat_take : ∀ (l : List Str) (i : Nat) (s : Str), l[i]? = some s → flat (l.take i) ++ s.enc = flat (l.take (i + 1))
  | [], i, s, h => by simp at h
  | t :: l, 0, s, h => by
    simp only [List.getElem?_cons_zero,Option.some.injEq] at h
    subst h
    simp [flat]
  | t :: l, i + 1, s, h => by
    simp only [List.take_succ_cons,flat,List.append_assoc]
    rw [flat_take l i s (by simpa using h)]
theorem enc_cells {s : Str} {H : AHeap} {b : Nat} (h : H.get b = .rw s.enc 46 false []) : srcCells H ⟨b, 0, none⟩ (1 * 9) = some s.enc := by
  unfold srcCells
  rw [h]; rfl
theorem one_flat : ∀ l, oneCells (flat l) = true
  | [] => rfl
  | s :: l => by
    show oneCells (s.enc ++ flat l) = true
    exact one_flat l
theorem sl_flat {H : AHeap} {b : Nat} {l : List Str} (hb : b < H.size) (h : cellsOf (H.get b) = some (flat l)) : Sl H (some ⟨b, 0, none⟩) l :=
  ⟨fun _ => ⟨b, 0, flat l, rfl, hb, h, fun i s hs => by rw [Nat.zero_add]; exact part_flat hs⟩, fun b' o s c _ ha hc => by
    cases ha
    rw [h] at hc
    cases hc
    rw [List.drop_zero, ← flat_length, List.take_length]⟩

/-- A row that is made by append, so far. -/
structure Grow (H : AHeap) (tb : Nat) (v : Value) (i : Nat) (cs : List Value) (el z : Nat) : Prop where
  nil : i = 0 → v = .slice none 0 0
  cons : i ≠ 0 → ∃ b al, v = .slice (some ⟨b, 0, none⟩) i (OPEN + z) ∧ tb < b ∧ b < H.size ∧ H.get b = .rw cs el true al ∧ (∀ j ∈ al, tb < j ∧ j < b)
structure FrU (m : Nat) (H H' : AHeap) : Prop where
  size : H.size ≤ H'.size
  same : ∀ k, k < m → H'.get k = H.get k
theorem Fr.part {H H₁ H₂ : AHeap} {m : Nat} (a : Fr H H₁) (b : FrU m H₁ H₂) (h : H.size ≤ m) : Fr H H₂ := ⟨Nat.le_trans a.size b.size, fun k hk => (b.same k (by omega)).trans (a.same k hk)⟩
theorem Grow.fr {H H' : AHeap} {tb i el z : Nat} {v : Value} {cs : List Value} (g : Grow H tb v i cs el z) (f : Fr H H') : Grow H' tb v i cs el z :=
  ⟨g.nil, fun h => by
    obtain ⟨b, al, h1, h2, h3, h4, h5⟩ := g.cons h
    exact ⟨b, al, h1, h2, Nat.lt_of_lt_of_le h3 f.size, by rw [f.same b h3]; exact h4, h5⟩⟩
theorem Grow.put {H : AHeap} {tb i el z k : Nat} {v : Value} {cs : List Value} {blk : ABlk} (g : Grow H tb v i cs el z) (hk : k ≤ tb) : Grow (H.put k blk) tb v i cs el z :=
  ⟨g.nil, fun h => by
    obtain ⟨b, al, h1, h2, h3, h4, h5⟩ := g.cons h
    exact ⟨b, al, h1, h2, by rw [zdf]; exact h3, by rw [zdd (by omega)]; exact h4, h5⟩⟩
theorem grow_append {ty el z by' tb i b cap : Nat} {sv : Value} {cs news : List Value} (hs : apS tabA ty = some (el, z, by')) (g : Grow H tb sv i cs el z) (htb : tb < H.size) (hcs : cs.length = i * z) (hx : srcCells H ⟨b, 0, none⟩ (1 * z) = some news) (hb : (i + 1) * by' ≤ 140737488355328) (hn : i + 1 ≤ 9223372036854775807)
    (h1 : oneCells news = true) (hL : L ≤ tb) (hq : ∀ a' c' H', FrU (tb + 1) H H' → Grow H' tb (.slice a' (i + 1) c') (i + 1) (cs ++ news) el z → Q false (.slice a' (i + 1) c') H') : apK tabA H ty sv (.slice (some ⟨b, 0, none⟩) 1 cap) L Q := by
  by_cases hi : i = 0
  · subst hi
    rw [g.nil rfl, apK_nil hs hx (by omega) (by omega) (by omega) h1, zba _ (by omega)]
    refine hq _ _ _ ⟨by simp only [zde]; omega, fun k hk => zdb (by omega)⟩ ⟨fun h => by omega, fun _ => ⟨H.size, [], rfl, htb, by simp only [zde]; omega, ?_, by simp⟩⟩
    have : cs = [] := List.length_eq_zero_iff.1 (by omega)
    subst this
    exact zcz
  · obtain ⟨b₀, al, rfl, k1, k2, k3, k4⟩ := g.cons hi
    rw [apK_more hs hx (by omega) (by exact hb) (by omega) h1 k3 hcs rfl, zba _ (le_minAl (by omega) (fun j hj => by have := k4 j hj; omega))]
    refine hq _ _ _ ⟨by simp only [zde,zdf,zdg]; omega, fun k hk => ?_⟩ ⟨fun h => by omega, fun _ => ⟨H.size, [b₀], rfl, htb, by simp only [zde,zdf,zdg]; omega, ?_, by simpa using ⟨k1, k2⟩⟩⟩
    · rw [zdb (by simp only [zdf,zdg]; omega), zdd (by omega), get_kill (fun hm => by have := k4 k hm; omega)]
    · exact zda (by simp only [zdf,zdg])
theorem Grow.sl {H : AHeap} {tb c z el : Nat} {a : Option Addr} {l : List Str} (g : Grow H tb (.slice a l.length c) l.length (flat l) el z) : Sl H a l := ⟨fun hne => by
  obtain ⟨b, al, h1, h2, h3, h4, h5⟩ := g.cons (by simpa using hne)
  cases h1
  exact (sl_flat (H := H) (b := b) h3 (by rw [h4]; rfl)).get hne, fun b o s c hne ha hc => by
  obtain ⟨b, al, h1, h2, h3, h4, h5⟩ := g.cons (by simpa using hne)
  cases h1
  exact (sl_flat (H := H) (b := b) h3 (by rw [h4]; rfl)).row _ _ _ _ hne ha hc⟩
theorem st_apS32 : apS tabA 32 = some (46, 9, 72) := by kernel_rfl
theorem st_apS22 : apS tabA 22 = some (45, 9, 72) := by kernel_rfl

theorem st_brS_32_1 : brS tabA 32 1 = some (9, 46, [.int .i64 0, .int .i64 0, .int .i64 0, .int .i64 0, .int .i64 0, .int .i64 0, .bool false, .int .i64 0, .int .i64 0]) := by kernel_rfl
theorem st_brS_22_0 : brS tabA 22 0 = some (9, 45, []) := by kernel_rfl
theorem c20 {a : Option Addr} {cap : Nat} {l : List Str} {C : Int} (hs : Sl H a l) (hl : l.length ≤ 18) (hL : L ≤ H.size) {M : Nat} (hM : 120 ≤ M)
    (hq : ∀ b a' cap' H', Fr H H' → Sl H' a' l → Q b (.agg ⟨[.int .i64 C, .slice a' l.length cap']⟩) H') : resK (acall tabA (aexec tabA Try.prog M) 20 [.agg ⟨[.int .i64 C, .slice a l.length cap]⟩] H) L Q := by
  obtain ⟨N, rfl⟩ : ∃ N, M = N + 120 := ⟨M - 120, by omega⟩
  refine call_some (R := fun v H' => Fr H H' ∧ ∃ a' cap', v = .agg ⟨[.int .i64 C, .slice a' l.length cap']⟩ ∧ Sl H' a' l) (k := 24) (rs := [.cell 2 34]) rfl fn_20 rfl rfl rfl hL ?_ ?_ ?_
  · simp (disch := (first | (simp only [yk,seval]; done) | omega | (simp only [yz] <;> omega) | fail)) only [↓yp,yq0,yq1,yq2,yq3,yq4,yl,ys0,ys1,seval,zed,zee,zfr,zhw,A_build zim,lenV_slice zio]
    refine W_while (n := 24) 60 (fun k e H' => ∃ i ga gc, k = l.length - i ∧ i ≤ l.length ∧ gt 24 e 12 = .int .i64 (i : Nat) ∧ gt 24 e 11 = .int .i64 l.length ∧ gt 24 e 10 = .slice a l.length cap ∧ gt 24 e 3 = .pointer (some ⟨H.size + 2, 0, none⟩) ∧ gt 24 e 2 = .pointer (some ⟨H.size + 1, 0, none⟩) ∧
      Fr ((H.alloc (.rw [.int .i64 C, .slice a l.length cap] 24 false [])).alloc (.rw [.int .i64 0, .slice none 0 0] 34 false [])) H' ∧ H.size + 2 < H'.size ∧ H'.get (H.size + 2) = .rw [.int .i64 C, .slice ga i gc] 34 false [] ∧ Grow H' (H.size + 2) (.slice ga i gc) i (flat (l.take i)) 46 9)
      ?_ 18 l.length ⟨0, none, 0, by omega, by omega, by simp (disch := (first | (simp only [yk,seval]; done) | omega | (simp only [yz] <;> omega) | fail)) only [yg,Nat.reduceAdd,Nat.reduceEqDiff,Nat.reduceLT]; rfl, by simp (disch := (first | (simp only [yk,seval]; done) | omega | (simp only [yz] <;> omega) | fail)) only [yg,Nat.reduceAdd,Nat.reduceEqDiff,Nat.reduceLT], by simp (disch := (first | (simp only [yk,seval]; done) | omega | (simp only [yz] <;> omega) | fail)) only [yg,Nat.reduceAdd,Nat.reduceEqDiff,Nat.reduceLT], by simp (disch := (first | (simp only [yk,seval]; done) | omega | (simp only [yz] <;> omega) | fail)) only [yg,Nat.reduceAdd,Nat.reduceEqDiff,Nat.reduceLT], by simp (disch := (first | (simp only [yk,seval]; done) | omega | (simp only [yz] <;> omega) | fail)) only [yg,Nat.reduceAdd,Nat.reduceEqDiff,Nat.reduceLT], by (repeat (first | exact Fr.refl _ | assumption | refine Fr.allocd ?_ _ | refine Fr.kill ?_ (by first | assumption | omega) | refine Fr.put ?_ (by first | omega | (simp only [yz] <;> omega)) _)), by (first | omega | (simp only [yz] <;> omega)), by simp (disch := (first | (simp only [yk,seval]; done) | omega | (simp only [yz] <;> omega) | fail)) only [yg,Nat.reduceAdd,Nat.reduceEqDiff,Nat.reduceLT], ⟨fun _ => rfl, fun h => absurd rfl h⟩⟩ (by omega) (by omega)
    rintro M k e H' ⟨i, ga, gc, rfl, hi, g12, g11, g10, g3, g2, fr, htb, hgt, gw⟩
    have f0 := fr.size
    simp only [zde] at f0
    have fs := fr.same
    simp (disch := (first | (simp only [yk,seval]; done) | omega | (simp only [yz] <;> omega) | fail)) only [↓yp,yq0,yq1,yq2,yq3,yq4,yl,ys0,ys1,seval,zed,zee,zfr,zhw,g12,g11,g10,g3,g2]
    refine ⟨fun hlt => ?_, fun hlt => ?_⟩
    · have hi' : i < l.length := by simpa using hlt
      obtain ⟨b, o, c, rfl, hb, hc, hp⟩ := hs.get (by intro h; subst h; simp at hi')
      obtain ⟨s, his⟩ : ∃ s, l[i]? = some s := ⟨l[i], by simp [hi']⟩
      have hpi := hp i s his
      have hw2 : w64 ((i : Int) + 1) = ((i + 1 : Nat) : Int) := by rw [w64_of (by omega)]; omega
      simp (disch := (first | (simp only [yk,seval]; done) | omega | (simp only [yz] <;> omega) | fail)) only [↓yp,yq0,yq1,yq2,yq3,yq4,yl,ys0,ys1,seval,zed,zee,zfr,zhw,g12,g11,g10,g3,g2,fs,A_indexSlice zio,hc,hpi,Str.enc,hgt,A_buildSlice st_brS_32_1]
      refine grow_append (i := i) (cs := flat (l.take i)) (news := s.enc) st_apS32 (gw.fr (by (repeat (first | exact Fr.refl _ | assumption | refine Fr.allocd ?_ _ | refine Fr.kill ?_ (by first | assumption | omega) | refine Fr.put ?_ (by first | omega | (simp only [yz] <;> omega)) _)))) (by (first | omega | (simp only [yz] <;> omega))) (by rw [flat_length, List.length_take]; omega) (enc_cells (by simp (disch := (first | (simp only [yk,seval]; done) | omega | (simp only [yz] <;> omega) | fail)) only [yg,Nat.reduceAdd,Nat.reduceEqDiff,Nat.reduceLT,Str.enc])) (by omega) (by omega) rfl (by omega) ?_
      intro a' c' H₂ fu gw'
      have u0 := fu.size
      have us := fu.same
      simp only [zde,zdf] at u0
      simp (disch := (first | (simp only [yk,seval]; done) | omega | (simp only [yz] <;> omega) | fail)) only [↓yp,yq0,yq1,yq2,yq3,yq4,yl,ys0,ys1,seval,zed,zee,zfr,zhw,g12,g11,g10,g3,g2,us,hgt,hw2]
      refine ⟨l.length - (i + 1), by omega, i + 1, a', c', rfl, by omega, ?_, ?_, ?_, ?_, ?_, ?_, ?_, ?_, ?_⟩
      · simp (disch := (first | (simp only [yk,seval]; done) | omega | (simp only [yz] <;> omega) | fail)) only [yg,Nat.reduceAdd,Nat.reduceEqDiff,Nat.reduceLT]
      · simp (disch := (first | (simp only [yk,seval]; done) | omega | (simp only [yz] <;> omega) | fail)) only [yg,Nat.reduceAdd,Nat.reduceEqDiff,Nat.reduceLT,g11]
      · simp (disch := (first | (simp only [yk,seval]; done) | omega | (simp only [yz] <;> omega) | fail)) only [yg,Nat.reduceAdd,Nat.reduceEqDiff,Nat.reduceLT,g10]
      · simp (disch := (first | (simp only [yk,seval]; done) | omega | (simp only [yz] <;> omega) | fail)) only [yg,Nat.reduceAdd,Nat.reduceEqDiff,Nat.reduceLT,g3]
      · simp (disch := (first | (simp only [yk,seval]; done) | omega | (simp only [yz] <;> omega) | fail)) only [yg,Nat.reduceAdd,Nat.reduceEqDiff,Nat.reduceLT,g2]
      · refine Fr.put ?_ (by (first | omega | (simp only [yz] <;> omega))) _
        refine Fr.part (H₁ := _) ?_ fu (by (first | omega | (simp only [yz] <;> omega)))
        (repeat (first | exact Fr.refl _ | assumption | refine Fr.allocd ?_ _ | refine Fr.kill ?_ (by first | assumption | omega) | refine Fr.put ?_ (by first | omega | (simp only [yz] <;> omega)) _))
      · (first | omega | (simp only [yz] <;> omega))
      · simp (disch := (first | (simp only [yk,seval]; done) | omega | (simp only [yz] <;> omega) | fail)) only [yg,Nat.reduceAdd,Nat.reduceEqDiff,Nat.reduceLT]
      · rw [← flat_take l i s his]; exact gw'.put (by omega)
    · have hi' : ¬ i < l.length := by simpa using hlt
      have hil : i = l.length := by omega
      subst hil
      simp (disch := (first | (simp only [yk,seval]; done) | omega | (simp only [yz] <;> omega) | fail)) only [↓yp,yq0,yq1,yq2,yq3,yq4,yl,ys0,ys1,seval,zed,zee,zfr,zhw,g12,g11,g10,g3,g2,hgt,fs]
      have hp : Fr H (H'.put (H.size + 1) (.rw [.int .i64 C, .slice ga l.length gc] 34 false [])) := by
        refine Fr.put ?_ (by (first | omega | (simp only [yz] <;> omega))) _
        exact Fr.trans (by (repeat (first | exact Fr.refl _ | assumption | refine Fr.allocd ?_ _ | refine Fr.kill ?_ (by first | assumption | omega) | refine Fr.put ?_ (by first | omega | (simp only [yz] <;> omega)) _))) fr
      refine ⟨hp, _, _, rfl, ?_⟩
      rw [List.take_length] at gw
      exact (gw.put (by omega)).sl
  · rintro v H' ⟨h1, a', cap', rfl, h2⟩
    exact hq _ _ _ _ h1 h2
  · rintro v H' ⟨h1, a', cap', rfl, h2⟩ hg
    have hnil : l = [] := Classical.byContradiction fun hne => by
      obtain ⟨b, o, c, rfl, _⟩ := h2.get hne
      simp [gr, ground] at hg
    exact hq _ _ _ _ (Fr.refl H) ⟨fun hne => absurd hnil hne, fun _ _ _ _ hne => absurd hnil hne⟩

/-- A copy by append, onto a row that is empty. -/
theorem sl_new {H : AHeap} {b : Nat} {l : List Str} (h : H.get b = .rw (flat l) 45 true []) (hb : b < H.size) : Sl H (some ⟨b, 0, none⟩) l := sl_flat hb (by rw [h]; rfl)
/-- A row of streets of its own. -/
structure New (H H' : AHeap) (a : Option Addr) (cap : Nat) (l : List Str) : Prop where
  fr : Fr H H'
  sl : Sl H' a l
  nl : a = none → cap = 0
  blk : l ≠ [] → ∃ k, a = some ⟨k, 0, none⟩ ∧ H.size ≤ k ∧ k < H'.size ∧ H'.get k = .rw (flat l) 45 true []
theorem New.nil {H H' : AHeap} {a : Option Addr} {cap : Nat} (f : Fr H H') (h : a = none → cap = 0) : New H H' a cap [] := ⟨f, ⟨fun h => absurd rfl h, fun _ _ _ _ h => absurd rfl h⟩, h, fun h => absurd rfl h⟩
theorem New.one {H : AHeap} {k cap : Nat} {H' : AHeap} {l : List Str} (f : Fr H H') (h1 : H.size ≤ k) (h2 : k < H'.size) (h3 : H'.get k = .rw (flat l) 45 true []) : New H H' (some ⟨k, 0, none⟩) cap l := ⟨f, sl_new h3 h2, (fun h => by cases h), fun _ => ⟨k, rfl, h1, h2, h3⟩⟩
theorem New.ground {H H' : AHeap} {a : Option Addr} {cap : Nat} {l : List Str} (n : New H H' a cap l) (h : a = none) : New H H a cap l := by
  have hnil : l = [] := Classical.byContradiction fun hne => by
    obtain ⟨k, h1, _⟩ := n.blk hne
    rw [h] at h1; cases h1
  subst hnil
  exact New.nil (Fr.refl _) n.nl
theorem gr_slice {a : Option Addr} {l c : Nat} (h : gr (.slice a l c) = true) : a = none := by cases a with
  | none => rfl
  | some a => simp [gr, ground] at h
theorem c74n {a : Option Addr} {cap : Nat} : acall tabA (aexec tabA Try.prog (N + 60)) 74 [.slice a 0 cap] H = some (true, .slice none 0 0, H, H.size) := by
  refine call_quiet (k := 9) (rs := [.tmp 2]) rfl fn_74 rfl rfl rfl ?_ rfl
  simp (disch := (first | (simp only [yk,seval]; done) | omega | (simp only [yz] <;> omega) | fail)) only [↓yp,yq0,yq1,yq2,yq3,yq4,yl,ys0,ys1,seval,zed,zee,zfr,zhw,lenV_slice zio,Int.natCast_zero]
theorem New.some {H H' : AHeap} {a : Option Addr} {cap : Nat} {l : List Str} (n : New H H' a cap l) (h : l ≠ []) : a ≠ none := fun e => by
  obtain ⟨k, h1, _⟩ := n.blk h
  rw [e] at h1; cases h1
theorem c74f {a : Option Addr} {cap : Nat} {l : List Str} (hs : Sl H a l) (hl : l.length ≤ 18) (hne : l ≠ []) (hL : L ≤ H.size) {M : Nat} (hM : 60 ≤ M)
    (hq : ∀ a' cap' H', New H H' a' cap' l → Q false (.slice a' l.length cap') H') : resK (acall tabA (aexec tabA Try.prog M) 74 [.slice a l.length cap] H) L Q := by
  obtain ⟨N, rfl⟩ : ∃ N, M = N + 60 := ⟨M - 60, by omega⟩
  refine call_fls (R := fun v H' => ∃ a' cap', v = .slice a' l.length cap' ∧ New H H' a' cap' l) (k := 9) (rs := [.tmp 2]) rfl fn_74 rfl rfl rfl hL ?_ ?_ ?_
  · simp (disch := (first | (simp only [yk,seval]; done) | omega | (simp only [yz] <;> omega) | fail)) only [↓yp,yq0,yq1,yq2,yq3,yq4,yl,ys0,ys1,seval,zed,zee,zfr,zhw,lenV_slice zio]
    have hpos : 0 < l.length := List.length_pos_iff.2 hne
    have h0 : decide ((l.length : Int) = 0) = false := by simp; exact hne
    obtain ⟨b, o, c, rfl, hb, hc, _⟩ := hs.get hne
    simp (disch := (first | (simp only [yk,seval]; done) | omega | (simp only [yz] <;> omega) | fail)) only [↓yp,yq0,yq1,yq2,yq3,yq4,yl,ys0,ys1,seval,zed,zee,zfr,zhw,A_buildSlice st_brS_22_0,h0]
    rw [apK_empty (H := _) (n := l.length) st_apS22 ((hs.fr (Fr.alloc _ _)).src hne) (by omega) (by omega) (by omega) (one_flat l) (c₀ := []) (by simp (disch := (first | (simp only [yk,seval]; done) | omega | (simp only [yz] <;> omega) | fail)) only [yg,Nat.reduceAdd,Nat.reduceEqDiff,Nat.reduceLT])]
    simp (disch := (first | (simp only [yk,seval]; done) | omega | (simp only [yz] <;> omega) | fail)) only [↓yp,yq0,yq1,yq2,yq3,yq4,yl,ys0,ys1,seval,zed,zee,zfr,zhw]
    exact ⟨_, _, rfl, New.one (by (repeat (first | exact Fr.refl _ | assumption | refine Fr.allocd ?_ _ | refine Fr.kill ?_ (by first | assumption | omega) | refine Fr.put ?_ (by first | omega | (simp only [yz] <;> omega)) _))) (by (first | omega | (simp only [yz] <;> omega))) (by (first | omega | (simp only [yz] <;> omega))) (by simp (disch := (first | (simp only [yk,seval]; done) | omega | (simp only [yz] <;> omega) | fail)) only [yg,Nat.reduceAdd,Nat.reduceEqDiff,Nat.reduceLT])⟩
  · rintro v H' ⟨a', cap', rfl, h⟩
    cases hg : gr (.slice a' l.length cap') with
    | false => rfl
    | true => exact absurd (gr_slice hg) (h.some hne)
  · rintro v H' ⟨a', cap', rfl, h⟩
    exact hq _ _ _ h
theorem New.from {H₀ H H' : AHeap} {a : Option Addr} {cap : Nat} {l : List Str} (n : New H H' a cap l) (f : Fr H₀ H) : New H₀ H' a cap l :=
  ⟨f.trans n.fr, n.sl, n.nl, fun h => by obtain ⟨k, h1, h2, h3⟩ := n.blk h; exact ⟨k, h1, Nat.le_trans f.size h2, h3⟩⟩
theorem New.putlt {H₀ H H' : AHeap} {a : Option Addr} {cap k : Nat} {l : List Str} {blk : ABlk} (n : New H H' a cap l) (f : Fr H₀ H) (h1 : H₀.size ≤ k) (h2 : k < H.size) : New H₀ (H'.put k blk) a cap l := by
  have n' := n.from f
  have ff : Fr H₀ (H'.put k blk) := n'.fr.put h1 blk
  by_cases h : l = []
  · subst h; exact New.nil ff n.nl
  · obtain ⟨q, rfl, q2, q3, q4⟩ := n.blk h
    exact New.one ff (Nat.le_trans f.size q2) (by rw [zdf]; exact q3) (by rw [zdd (by omega)]; exact q4)
theorem gr_town {C : Int} {a : Option Addr} {l c : Nat} (h : gr (.agg ⟨[.int .i64 C, .slice a l c]⟩) = true) : a = none := by cases a with
  | none => rfl
  | some a => simp [gr, ground] at h
theorem c19 {a : Option Addr} {cap : Nat} {l : List Str} {C : Int} (hs : Sl H a l) (hl : l.length ≤ 18) (hL : L ≤ H.size) {M : Nat} (hM : 120 ≤ M)
    (hq : ∀ b a' cap' H', New H H' a' cap' l → Q b (.agg ⟨[.int .i64 C, .slice a' l.length cap']⟩) H') : resK (acall tabA (aexec tabA Try.prog M) 19 [.agg ⟨[.int .i64 C, .slice a l.length cap]⟩] H) L Q := by
  obtain ⟨N, rfl⟩ : ∃ N, M = N + 120 := ⟨M - 120, by omega⟩
  refine call_some (R := fun v H' => ∃ a' cap', v = .agg ⟨[.int .i64 C, .slice a' l.length cap']⟩ ∧ New H H' a' cap' l) (k := 9) (rs := [.cell 2 24]) rfl fn_19 rfl rfl rfl hL ?_ ?_ ?_
  · simp (disch := (first | (simp only [yk,seval]; done) | omega | (simp only [yz] <;> omega) | fail)) only [↓yp,yq0,yq1,yq2,yq3,yq4,yl,ys0,ys1,seval,zed,zee,zfr,zhw]
    by_cases hne : l = []
    · subst hne
      refine W_draw [6] rfl (by kernel_rfl) (by kernel_rfl) (by (first | omega | (simp only [yz] <;> omega))) ?_
      simp (disch := (first | (simp only [yk,seval]; done) | omega | (simp only [yz] <;> omega) | fail)) only [↓yp,yq0,yq1,yq2,yq3,yq4,yl,ys0,ys1,seval,zed,zee,zfr,zhw,c74n,A_build zil]
      exact ⟨none, 0, rfl, New.nil (by (repeat (first | exact Fr.refl _ | assumption | refine Fr.allocd ?_ _ | refine Fr.kill ?_ (by first | assumption | omega) | refine Fr.put ?_ (by first | omega | (simp only [yz] <;> omega)) _))) fun _ => rfl⟩
    · refine W_draw [4, 6] rfl (by kernel_rfl) (by kernel_rfl) (by (first | omega | (simp only [yz] <;> omega))) ?_
      simp (disch := (first | (simp only [yk,seval]; done) | omega | (simp only [yz] <;> omega) | fail)) only [↓yp,yq0,yq1,yq2,yq3,yq4,yl,ys0,ys1,seval,zed,zee,zfr,zhw]
      refine c74f (hs.fr (by (repeat (first | exact Fr.refl _ | assumption | refine Fr.allocd ?_ _ | refine Fr.kill ?_ (by first | assumption | omega) | refine Fr.put ?_ (by first | omega | (simp only [yz] <;> omega)) _)))) hl hne (by (first | omega | (simp only [yz] <;> omega))) (by omega) ?_
      intro a' cap' H₂ nw
      have n0 := nw.fr.size
      have ns := nw.fr.same
      simp only [zde] at n0
      simp (disch := (first | (simp only [yk,seval]; done) | omega | (simp only [yz] <;> omega) | fail)) only [↓yp,yq0,yq1,yq2,yq3,yq4,yl,ys0,ys1,seval,zed,zee,zfr,zhw,A_build zil,ns]
      exact ⟨a', cap', rfl, nw.putlt (by (repeat (first | exact Fr.refl _ | assumption | refine Fr.allocd ?_ _ | refine Fr.kill ?_ (by first | assumption | omega) | refine Fr.put ?_ (by first | omega | (simp only [yz] <;> omega)) _))) (by omega) (by (first | omega | (simp only [yz] <;> omega)))⟩
  · rintro v H' ⟨a', cap', rfl, h⟩
    exact hq _ _ _ _ h
  · rintro v H' ⟨a', cap', rfl, h⟩ hg
    exact hq _ _ _ _ (h.ground (gr_town hg))
end Go.Am
