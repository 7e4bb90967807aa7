import Derived.Test.YtaieoelbpnjoiaaT49
import Derived.Test.YtaieoelbpnjoiaaT48
set_option linter.unusedSimpArgs false
set_option linter.unusedVariables false
namespace Go.Am
open Go.Proofs
variable {T : Tab} {P : Program} {N L : Nat} {H : AHeap} {Q : Bool → Value → AHeap → Prop}
theorem Op.fr {H' : AHeap} {ta : Option Addr} {tc : Nat} {t : List Int} (h : Op H ta tc t) (f : Fr H H') : Op H' ta tc t := ⟨h.il.fr f, fun hne => by
  obtain ⟨b, o, kn, h1, h2, h3, h4⟩ := h.op hne
  obtain ⟨b', o', c', h5, h6, -⟩ := h.il.get hne
  rw [h1] at h5
  cases h5
  refine ⟨b, o, kn, h1, h2, ?_, h4⟩
  rw [← h3]
  unfold known
  simp only [f.same b h6]⟩
theorem Op.none : Op H none 0 [] := ⟨Il.nil, fun h => absurd rfl h⟩
section
variable {l : List Str} {C w ld fr m : Int} {a ta : Option Addr} {cap tc : Nat} {t : List Int}
theorem c82t {k₁ k₂ : Nat} {x : Int} (hs : Sl H a l) (hl : l.length ≤ 18) (h₁ : cellsOf (H.get k₁) = some [.int .i64 x]) (ht : Il H ta t) (htl : t.length ≤ 65) (h₂ : cellsOf (H.get k₂) = some [.int .i64 m]) :
    acall tabA (aexec tabA Try.prog (N + 450)) 82 [.agg ⟨[.int .i64 C, .slice a l.length cap]⟩, .agg ⟨[.int .i64 w, .int .i64 ld]⟩, .slice (some ⟨k₁, 0, none⟩) 1 1, .slice ta t.length tc, .slice (some ⟨k₂, 0, none⟩) 1 1] H = some (true, .int .i64 (asked C l w ld [x] t [m]), H, H.size) :=
  c82w (cs := [x]) (ss := t) (ms := [m]) hs hl (Il.one (lt_of_cells h₁) h₁) (by simp) ht htl (Il.one (lt_of_cells h₂) h₂) (by simp)
set_option maxHeartbeats 4000000 in
theorem c68v {sv : Value} (hs : Sl H a l) (hl : l.length ≤ 18) (hX : ∀ H', Fr H H' → Good C l ld → ExC H' l C w ld a cap sv (fun i => ((bitN t i : Nat) : Int)) (dnT t) (corT t.length)) (hln : ∀ H' : AHeap, lenV tabA H' 52 sv = some (.int .i64 (t.length : Nat))) (h113 : ∀ (N : Nat) (H' : AHeap), Fr H H' → acall tabA (aexec tabA Try.prog (N + 200)) 113 [sv] H' = some (true, .bool (!decide t.Nodup), H', H'.size)) (h82 : ∀ (N : Nat) (H' : AHeap) (k₁ k₂ : Nat), Fr H H' → cellsOf (H'.get k₁) = some [.int .i64 fr] → cellsOf (H'.get k₂) = some [.int .i64 m] → acall tabA (aexec tabA Try.prog (N + 450)) 82 [.agg ⟨[.int .i64 C, .slice a l.length cap]⟩, .agg ⟨[.int .i64 w, .int .i64 ld]⟩, .slice (some ⟨k₁, 0, none⟩) 1 1, sv, .slice (some ⟨k₂, 0, none⟩) 1 1] H' = some (true, .int .i64 (asked C l w ld [fr] t [m]), H', H'.size)) (htl : t.length ≤ 6) (hnd : t.Nodup) (h0 : asked C l w ld [fr] t [m] = 0) (hL : L ≤ H.size) {M : Nat} (hM : 21000 ≤ M)
    (hn : ∀ q H', (q = true → H' = H) → Fr H H' → (∀ m', ¬ CanS l w ld (nxt (dnT t)) (fr, 0) m m' (fr, ((2 ^ t.length - 1 : Nat) : Int))) → Q q (.tuple ⟨[.slice none 0 0, .int .i64 0, .int .i64 1]⟩) H')
    (hq : ∀ q v ls H' mm, (q = true → H' = H) → Fr H H' → RowL H' v ls H.size → Run l w ld (nxt (dnT t)) (fr, 0) m ls (fr, ((2 ^ t.length - 1 : Nat) : Int)) mm → ls.length ≤ 55 → CanS l w ld (nxt (dnT t)) (fr, 0) m mm (fr, ((2 ^ t.length - 1 : Nat) : Int)) → (∀ m', CanS l w ld (nxt (dnT t)) (fr, 0) m m' (fr, ((2 ^ t.length - 1 : Nat) : Int)) → mm ≤ m') → Q q (.tuple ⟨[v, .int .i64 mm, .int .i64 0]⟩) H') :
    resK (acall tabA (aexec tabA Try.prog M) 68 [.agg ⟨[.int .i64 C, .slice a l.length cap]⟩, .agg ⟨[.int .i64 w, .int .i64 ld]⟩, .int .i64 fr, .int .i64 m, sv] H) L Q := by
  obtain ⟨N, rfl⟩ : ∃ N, M = N + 21000 := ⟨M - 21000, by omega⟩
  refine call_some (R := fun v H' => Fr H H' ∧ ((v = .tuple ⟨[.slice none 0 0, .int .i64 0, .int .i64 1]⟩ ∧ ∀ m', ¬ CanS l w ld (nxt (dnT t)) (fr, 0) m m' (fr, ((2 ^ t.length - 1 : Nat) : Int))) ∨
      ∃ u ls mm, v = .tuple ⟨[u, .int .i64 mm, .int .i64 0]⟩ ∧ RowL H' u ls H.size ∧ Run l w ld (nxt (dnT t)) (fr, 0) m ls (fr, ((2 ^ t.length - 1 : Nat) : Int)) mm ∧ ls.length ≤ 55 ∧ CanS l w ld (nxt (dnT t)) (fr, 0) m mm (fr, ((2 ^ t.length - 1 : Nat) : Int)) ∧ (∀ m', CanS l w ld (nxt (dnT t)) (fr, 0) m m' (fr, ((2 ^ t.length - 1 : Nat) : Int)) → mm ≤ m')))
    (k := 41) (rs := [.tmp 10, .tmp 11, .tmp 12]) rfl fn_68 rfl rfl rfl hL ?_ ?_ ?_
  · have hA := h113
    have h6 : decide ((t.length : Int) > 6) = false := by simp; omega
    simp (disch := (first | (simp only [yk,seval]; done) | omega | (simp only [yz] <;> omega) | fail)) only [↓yp,yq0,yq1,yq2,yq3,yq4,yl,ys0,ys1,seval,zed,zee,zfr,zhw,ysu,yrg,ysv,ysw,ysx,ysz,ysa,A_buildSlice st_brS_52_1]
    rw [h82 _ _ _ _ (by (repeat (first | exact Fr.refl _ | assumption | refine Fr.allocd ?_ _ | refine Fr.put ?_ (by first | omega | (simp only [yz] <;> omega)) _))) (by simp (disch := (first | (simp only [yk,seval]; done) | omega | (simp only [yz] <;> omega) | fail)) only [yg,seval]) (by simp (disch := (first | (simp only [yk,seval]; done) | omega | (simp only [yz] <;> omega) | fail)) only [yg,seval])]
    rw [h0]
    obtain ⟨hc, hw, hd, hcs, hss, hms⟩ := asked_ok h0
    have g := good_of hc hd
    have hC := g.hC
    have hfr := hcs fr (by simp)
    have hm := hms m (by simp)
    simp (disch := (first | (simp only [yk,seval]; done) | omega | (simp only [yz] <;> omega) | fail)) only [↓yp,yq0,yq1,yq2,yq3,yq4,yl,ys0,ys1,seval,zed,zee,zfr,zhw,ysu,yrg,ysv,ysw,ysx,ysz,ysa,hln,h6]
    rw [hA _ _ (by (repeat (first | exact Fr.refl _ | assumption | refine Fr.allocd ?_ _ | refine Fr.put ?_ (by first | omega | (simp only [yz] <;> omega)) _)))]
    have hnd' : decide t.Nodup = true := decide_eq_true hnd
    simp (disch := (first | (simp only [yk,seval]; done) | omega | (simp only [yz] <;> omega) | fail)) only [↓yp,yq0,yq1,yq2,yq3,yq4,yl,ys0,ys1,seval,zed,zee,zfr,zhw,ysu,yrg,ysv,ysw,ysx,ysz,ysa,hnd',Bool.not_true]
    refine c83q (hs.fr (by (repeat (first | exact Fr.refl _ | assumption | refine Fr.allocd ?_ _ | refine Fr.put ?_ (by first | omega | (simp only [yz] <;> omega)) _)))).none_len (by (first | omega | (simp only [yz] <;> omega))) (by omega) ?_
    intro b3 H3 fr3
    have f3 := fr3.size
    simp only [zde] at f3
    have fH : Fr H H3 := Fr.trans (by (repeat (first | exact Fr.refl _ | assumption | refine Fr.allocd ?_ _ | refine Fr.put ?_ (by first | omega | (simp only [yz] <;> omega)) _))) fr3
    simp (disch := (first | (simp only [yk,seval]; done) | omega | (simp only [yz] <;> omega) | fail)) only [↓yp,yq0,yq1,yq2,yq3,yq4,yl,ys0,ys1,seval,zed,zee,zfr,zhw,ysu,yrg,ysv,ysw,ysx,ysz,ysa]
    refine c92v (fun _ f => hX _ (fH.trans f) g) hln htl g hl hm (by omega) (by omega) (by omega) ?_ ?_
    · intro H4 f4 hno q
      have sz4 := f4.size
      simp (disch := (first | (simp only [yk,seval]; done) | omega | (simp only [yz] <;> omega) | fail)) only [↓yp,yq0,yq1,yq2,yq3,yq4,yl,ys0,ys1,seval,zed,zee,zfr,zhw,ysu,yrg,ysv,ysw,ysx,ysz,ysa]
      exact ⟨fH.trans f4, .inl hno⟩
    · intro q v ls H4 mm f4 hr hrun h7 hcan hle
      have sz4 := f4.size
      simp (disch := (first | (simp only [yk,seval]; done) | omega | (simp only [yz] <;> omega) | fail)) only [↓yp,yq0,yq1,yq2,yq3,yq4,yl,ys0,ys1,seval,zed,zee,zfr,zhw,ysu,yrg,ysv,ysw,ysx,ysz,ysa]
      exact ⟨fH.trans f4, .inr ⟨v, ls, mm, rfl, hr.low (by omega), hrun, h7, hcan, hle⟩⟩
  · rintro v H' ⟨f, ⟨rfl, h1⟩ | ⟨u, ls, mm, rfl, h2, h3, h4, h5, h6⟩⟩
    · exact hn false _ (fun h => by cases h) f h1
    · exact hq false _ _ _ _ (fun h => by cases h) f h2 h3 h4 h5 h6
  · rintro v H' ⟨f, ⟨rfl, h1⟩ | ⟨u, ls, mm, rfl, h2, h3, h4, h5, h6⟩⟩ hg
    · exact hn true _ (fun _ => rfl) (Fr.refl H) h1
    · refine hq true _ _ _ _ (fun _ => rfl) (Fr.refl H) ⟨h2.nil, fun hne => ?_⟩ h3 h4 h5 h6
      obtain ⟨b, al, rfl, -⟩ := h2.cons hne
      cases hg
theorem c68 (hs : Sl H a l) (hl : l.length ≤ 18) (ho : Op H ta tc t) (htl : t.length ≤ 6) (hnd : t.Nodup) (h0 : asked C l w ld [fr] t [m] = 0) (hL : L ≤ H.size) {M : Nat} (hM : 21000 ≤ M)
    (hn : ∀ q H', (q = true → H' = H) → Fr H H' → (∀ m', ¬ CanS l w ld (nxt (dnT t)) (fr, 0) m m' (fr, ((2 ^ t.length - 1 : Nat) : Int))) → Q q (.tuple ⟨[.slice none 0 0, .int .i64 0, .int .i64 1]⟩) H')
    (hq : ∀ q v ls H' mm, (q = true → H' = H) → Fr H H' → RowL H' v ls H.size → Run l w ld (nxt (dnT t)) (fr, 0) m ls (fr, ((2 ^ t.length - 1 : Nat) : Int)) mm → ls.length ≤ 55 → CanS l w ld (nxt (dnT t)) (fr, 0) m mm (fr, ((2 ^ t.length - 1 : Nat) : Int)) → (∀ m', CanS l w ld (nxt (dnT t)) (fr, 0) m m' (fr, ((2 ^ t.length - 1 : Nat) : Int)) → mm ≤ m') → Q q (.tuple ⟨[v, .int .i64 mm, .int .i64 0]⟩) H') :
    resK (acall tabA (aexec tabA Try.prog M) 68 [.agg ⟨[.int .i64 C, .slice a l.length cap]⟩, .agg ⟨[.int .i64 w, .int .i64 ld]⟩, .int .i64 fr, .int .i64 m, .slice ta t.length tc] H) L Q := by
  exact c68v hs hl (fun _ f g => exCT (hs.fr f) (ho.il.fr f) htl g hl) (fun _ => lenV_slice zir) (fun N _ f => c113 (N := N) (ho.fr f) htl) (fun N _ _ _ f h1 h2 => c82t (hs.fr f) hl h1 (ho.il.fr f) (by omega) h2) htl hnd h0 hL hM hn hq
end
end Go.Am
namespace Go.Am
open Go.Proofs
def dnN (t vs : List Int) : Nat := vs.foldl (fun d v => d ||| bitN t v) 0
theorem dnN_app {t vs : List Int} {v : Int} : dnN t (vs ++ [v]) = dnN t vs ||| bitN t v := by unfold dnN; rw [List.foldl_append]; rfl
theorem bitN_test {t : List Int} {x : Int} {r : Nat} : (bitN t x).testBit r = decide (plc t x = some r) := by
  unfold bitN
  cases plc t x with
  | none => simp
  | some q => simp only [Nat.testBit_two_pow,Option.some.injEq]
theorem dn_test {t : List Int} {r : Nat} : ∀ (vs : List Int) (d : Nat), (vs.foldl (fun d v => d ||| bitN t v) d).testBit r = (d.testBit r || vs.any fun v => decide (plc t v = some r))
  | [], d => by simp
  | v :: vs, d => by
    rw [List.foldl_cons, dn_test vs, Nat.testBit_or, bitN_test, List.any_cons, Bool.or_assoc]
theorem dnN_test {t vs : List Int} {r : Nat} : (dnN t vs).testBit r = vs.any fun v => decide (plc t v = some r) := by
  unfold dnN
  rw [dn_test]
  simp
theorem plc_of {t : List Int} {r : Nat} (hnd : t.Nodup) (hr : r < t.length) : plc t t[r] = some r := by
  cases h : plc t t[r] with
  | none => exact absurd (List.getElem_mem hr) (plc_none h)
  | some q =>
    obtain ⟨hq, h2, -⟩ := plc_some h
    have hp := List.pairwise_iff_getElem.1 hnd
    have : q = r := by
      rcases Nat.lt_trichotomy q r with h3 | h3 | h3
      · exact absurd h2 (hp q r hq hr h3)
      · exact h3
      · exact absurd h2.symm (hp r q hr hq h3)
    rw [this]
theorem dn_full {t vs : List Int} (hnd : t.Nodup) : dnN t vs = 2 ^ t.length - 1 ↔ ∀ s ∈ t, s ∈ vs := by
  constructor
  · intro h s hs
    obtain ⟨r, hr, rfl⟩ := List.mem_iff_getElem.1 hs
    have h1 : (dnN t vs).testBit r = true := by rw [h, Nat.testBit_two_pow_sub_one]; exact decide_eq_true hr
    rw [dnN_test, List.any_eq_true] at h1
    obtain ⟨v, hv, h2⟩ := h1
    obtain ⟨_, h3, _⟩ := plc_some (of_decide_eq_true h2)
    rw [h3]; exact hv
  · intro h
    apply Nat.eq_of_testBit_eq
    intro r
    rw [dnN_test, Nat.testBit_two_pow_sub_one]
    by_cases hr : r < t.length
    · rw [decide_eq_true hr, List.any_eq_true]
      exact ⟨t[r], h _ (List.getElem_mem hr), decide_eq_true (plc_of hnd hr)⟩
    · rw [decide_eq_false hr, List.any_eq_false]
      intro v _ h2
      obtain ⟨h3, -⟩ := plc_some (of_decide_eq_true h2)
      exact hr h3
theorem lck_iff {ls : List (Int × Bool)} {t : List Int} : lckB ls t = false ↔ ∀ s ∈ t, s ∈ ls.map (·.1) := by
  unfold lckB
  rw [List.any_eq_false]
  constructor
  · intro h s hs
    have h1 := h s hs
    rw [Bool.not_eq_true, Bool.not_eq_false', List.any_eq_true] at h1
    obtain ⟨p, hp, h2⟩ := h1
    exact List.mem_map.2 ⟨p, hp, of_decide_eq_true h2⟩
  · intro h s hs
    obtain ⟨p, hp, h2⟩ := List.mem_map.1 (h s hs)
    rw [Bool.not_eq_true, Bool.not_eq_false', List.any_eq_true]
    exact ⟨p, hp, decide_eq_true h2⟩
section
variable {l : List Str} {C w ld fr a₀ m : Int} {t : List Int} {x : Stt}
theorem canS_vis (h : CanS l w ld (nxt (dnT t)) (fr, 0) a₀ m x) : ∃ vs, x.2 = ((dnN t vs : Nat) : Int) ∧ ∀ t', CanS l w ld (nxt (dnT t')) (fr, 0) a₀ m (x.1, ((dnN t' vs : Nat) : Int)) := by
  induction h with
  | start => exact ⟨[], rfl, fun t' => .start⟩
  | wait _ hm ih =>
    obtain ⟨vs, h1, h2⟩ := ih
    exact ⟨vs, h1, fun t' => (h2 t').wait hm⟩
  | @go m x i s b _ hx hi hm hs ih =>
    obtain ⟨vs, h1, h2⟩ := ih
    refine ⟨vs ++ [(i : Int)], ?_, fun t' => ?_⟩
    · show dnT t x.2 i = _
      rw [h1, dnN_app]
      unfold dnT
      rw [Int.toNat_natCast]
    · have h3 := (h2 t').go (b := b) hx hi hm hs
      have e : nxt (dnT t') (x.1, ((dnN t' vs : Nat) : Int)) i s b = (farL s b, ((dnN t' (vs ++ [(i : Int)]) : Nat) : Int)) := by
        unfold nxt dnT
        rw [Int.toNat_natCast, dnN_app]
      rw [e] at h3
      exact h3
theorem run_vis {ls : List (Int × Bool)} (h : Run l w ld (nxt (dnT t)) (fr, 0) a₀ ls x m) : x.2 = ((dnN t (ls.map (·.1)) : Nat) : Int) := by
  induction h with
  | nil => rfl
  | @snoc ls x m i r b _ _ _ _ _ _ ih =>
    show dnT t x.2 i = _
    rw [ih, List.map_append, List.map_cons, List.map_nil, dnN_app]
    unfold dnT
    rw [Int.toNat_natCast]
theorem run_dn {ls : List (Int × Bool)} (h : Run l w ld (nxt (dnT t)) (fr, 0) a₀ ls x m) : Run l w ld (nxt dn0) (fr, 0) a₀ ls (x.1, 0) m := by
  induction h with
  | nil => exact .nil
  | @snoc ls x m i r b _ hi hm hn ha hlt ih => exact ih.snoc hi hm hn ha hlt
theorem tour_less {t' : List Int} (h : CanS l w ld (nxt (dnT t)) (fr, 0) a₀ m (fr, ((2 ^ t.length - 1 : Nat) : Int))) (hnd : t.Nodup) (hnd' : t'.Nodup) (hsub : ∀ s ∈ t', s ∈ t) : CanS l w ld (nxt (dnT t')) (fr, 0) a₀ m (fr, ((2 ^ t'.length - 1 : Nat) : Int)) := by
  obtain ⟨vs, h1, h2⟩ := canS_vis h
  have h3 := (dn_full hnd).1 (Int.ofNat_inj.1 h1.symm)
  have h4 := (dn_full hnd').2 fun s hs => h3 s (hsub s hs)
  have h5 := h2 t'
  rw [h4] at h5
  exact h5
inductive Wlk (l : List Str) (w ld fr a₀ : Int) : List (Int × Bool) → Int → Int → Prop
  | nil : Wlk l w ld fr a₀ [] fr a₀
  | snoc {ls : List (Int × Bool)} {x m : Int} {i : Nat} {s : Str} {b : Bool} : Wlk l w ld fr a₀ ls x m → nearL s b = x → l[i]? = some s → mayL s b w ld = true → arriveL s b ld m ≠ -1 → Wlk l w ld fr a₀ (ls ++ [((i : Int), b)]) (farL s b) (arriveL s b ld m)
theorem Wlk.canS {ls : List (Int × Bool)} {y : Int} (h : Wlk l w ld fr a₀ ls y m) (g : Good C l ld) (h0 : 0 ≤ a₀) (ha : a₀ ≤ 240) : CanS l w ld (nxt (dnT t)) (fr, 0) a₀ m (y, ((dnN t (ls.map (·.1)) : Nat) : Int)) := by
  induction h with
  | nil => exact .start
  | @snoc ls y m i s b _ hx hi hm hs ih =>
    have h3 := ih.arr (b := b) g h0 ha hx hi hm hs
    have e : nxt (dnT t) (y, ((dnN t (ls.map (·.1)) : Nat) : Int)) i s b = (farL s b, ((dnN t ((ls ++ [((i : Int), b)]).map (·.1)) : Nat) : Int)) := by
      rw [List.map_append, List.map_cons, List.map_nil, dnN_app]
      unfold nxt dnT
      rw [Int.toNat_natCast]
    rw [e] at h3
    exact h3
theorem wlk_tour {ls : List (Int × Bool)} (h : Wlk l w ld fr a₀ ls fr m) (g : Good C l ld) (h0 : 0 ≤ a₀) (ha : a₀ ≤ 240) (hnd : t.Nodup) (hl : lckB ls t = false) : CanS l w ld (nxt (dnT t)) (fr, 0) a₀ m (fr, ((2 ^ t.length - 1 : Nat) : Int)) := by
  have h1 := h.canS (t := t) g h0 ha
  rw [(dn_full hnd).2 (lck_iff.1 hl)] at h1
  exact h1
theorem run_through {ls : List (Int × Bool)} (h : Run l w ld (nxt (dnT t)) (fr, 0) a₀ ls (fr, ((2 ^ t.length - 1 : Nat) : Int)) m) (hnd : t.Nodup) : lckB ls t = false :=
  lck_iff.2 ((dn_full hnd).1 (Int.ofNat_inj.1 (run_vis h).symm))
end
end Go.Am
namespace Go.Am
open Go.Proofs
variable {T : Tab} {P : Program} {N L : Nat} {H : AHeap} {Q : Bool → Value → AHeap → Prop}
theorem c110c {r : Option Nat} {x : Int} : acall tabA (aexec tabA Try.prog (N + 70)) 110 [.chan r, .int .i64 x] H = some (true, .int .i64 (-1), H, H.size) := by
  refine call_quiet (k := 19) (rs := [.tmp 4]) rfl fn_110 rfl rfl rfl ?_ rfl
  simp (disch := (first | (simp only [yk,seval]; done) | omega | (simp only [yz] <;> omega) | fail)) only [↓yp,yq0,yq1,yq2,yq3,yq4,yl,ys0,ys1,seval,zed,zee,zfr,zhw,ysu,yrg,ysv,ysw,ysx,ysz,ysa,lenV_chan zir]
  refine W_while (n := 19) 30 (fun k e H' => k = 0 ∧ gt 19 e 8 = .int .i64 0 ∧ gt 19 e 7 = .int .i64 0 ∧ H' = H)
    ?_ 1 0 ⟨rfl, by simp (disch := (first | (simp only [yk,seval]; done) | omega | (simp only [yz] <;> omega) | fail)) only [yg,seval], by simp (disch := (first | (simp only [yk,seval]; done) | omega | (simp only [yz] <;> omega) | fail)) only [yg,seval], rfl⟩ (by omega) (by omega)
  rintro M k e H' ⟨rfl, g8, g7, rfl⟩
  simp (disch := (first | (simp only [yk,seval]; done) | omega | (simp only [yz] <;> omega) | fail)) only [↓yp,yq0,yq1,yq2,yq3,yq4,yl,ys0,ys1,seval,zed,zee,zfr,zhw,ysu,yrg,ysv,ysw,ysx,ysz,ysa,g8,g7]
theorem c132c {r : Option Nat} {x : Int} : acall tabA (aexec tabA Try.prog (N + 100)) 132 [.chan r, .int .i64 x] H = some (true, .int .u64 (bitN [] x : Nat), H, H.size) := by
  have hc := fun (N : Nat) => c110c (N := N) (H := H) (r := r) (x := x)
  refine call_quiet (k := 13) (rs := [.tmp 4]) rfl fn_132 rfl rfl rfl ?_ rfl
  have h2 : bitN [] x = 0 := rfl
  rw [h2]
  simp (disch := (first | (simp only [yk,seval]; done) | omega | (simp only [yz] <;> omega) | fail)) only [↓yp,yq0,yq1,yq2,yq3,yq4,yl,ys0,ys1,seval,zed,zee,zfr,zhw,ysu,yrg,ysv,ysw,ysx,ysz,ysa,hc]
  try rfl
theorem c113c {r : Option Nat} : acall tabA (aexec tabA Try.prog (N + 200)) 113 [.chan r] H = some (true, .bool (!decide ([] : List Int).Nodup), H, H.size) := by
  refine call_quiet (k := 18) (rs := [.tmp 2]) rfl fn_113 rfl rfl rfl ?_ rfl
  simp (disch := (first | (simp only [yk,seval]; done) | omega | (simp only [yz] <;> omega) | fail)) only [↓yp,yq0,yq1,yq2,yq3,yq4,yl,ys0,ys1,seval,zed,zee,zfr,zhw,ysu,yrg,ysv,ysw,ysx,ysz,ysa,lenV_chan zir]
  refine W_while (n := 18) 150 (fun k e H' => k = 0 ∧ gt 18 e 7 = .int .i64 0 ∧ gt 18 e 6 = .int .i64 0 ∧ H' = H)
    ?_ 1 0 ⟨rfl, by simp (disch := (first | (simp only [yk,seval]; done) | omega | (simp only [yz] <;> omega) | fail)) only [yg,seval], by simp (disch := (first | (simp only [yk,seval]; done) | omega | (simp only [yz] <;> omega) | fail)) only [yg,seval], rfl⟩ (by omega) (by omega)
  rintro M k e H' ⟨rfl, g8, g7, rfl⟩
  simp (disch := (first | (simp only [yk,seval]; done) | omega | (simp only [yz] <;> omega) | fail)) only [↓yp,yq0,yq1,yq2,yq3,yq4,yl,ys0,ys1,seval,zed,zee,zfr,zhw,ysu,yrg,ysv,ysw,ysx,ysz,ysa,g8,g7]
  try rfl
theorem c98c {r : Option Nat} {g : Value} : acall tabA (aexec tabA Try.prog (N + 170)) 98 [.chan r, g] H = some (true, .bool true, H, H.size) := by
  refine call_quiet (k := 18) (rs := [.tmp 4]) rfl fn_98 rfl rfl rfl ?_ rfl
  simp (disch := (first | (simp only [yk,seval]; done) | omega | (simp only [yz] <;> omega) | fail)) only [↓yp,yq0,yq1,yq2,yq3,yq4,yl,ys0,ys1,seval,zed,zee,zfr,zhw,ysu,yrg,ysv,ysw,ysx,ysz,ysa,lenV_chan zir]
  refine W_while (n := 18) 70 (fun k e H' => k = 0 ∧ gt 18 e 9 = .int .i64 0 ∧ gt 18 e 8 = .int .i64 0 ∧ H' = H)
    ?_ 1 0 ⟨rfl, by simp (disch := (first | (simp only [yk,seval]; done) | omega | (simp only [yz] <;> omega) | fail)) only [yg,seval], by simp (disch := (first | (simp only [yk,seval]; done) | omega | (simp only [yz] <;> omega) | fail)) only [yg,seval], rfl⟩ (by omega) (by omega)
  rintro M k e H' ⟨rfl, g8, g7, rfl⟩
  simp (disch := (first | (simp only [yk,seval]; done) | omega | (simp only [yz] <;> omega) | fail)) only [↓yp,yq0,yq1,yq2,yq3,yq4,yl,ys0,ys1,seval,zed,zee,zfr,zhw,ysu,yrg,ysv,ysw,ysx,ysz,ysa,g8,g7]
theorem c98cr {r : Option Nat} {g : Value} {M : Nat} (hM : 170 ≤ M) (hq : andK (L ≤ H.size) (Q true (.bool true) H)) : resK (acall tabA (aexec tabA Try.prog M) 98 [.chan r, g] H) L Q := by
  obtain ⟨N, rfl⟩ : ∃ N, M = N + 170 := ⟨M - 170, by omega⟩
  rw [c98c]; exact hq
set_option maxHeartbeats 1000000 in
theorem c82c {a ac am : Option Addr} {r : Option Nat} {cap kc km : Nat} {l : List Str} {cs ms : List Int} {C w ld : Int} (hs : Sl H a l) (hl : l.length ≤ 18) (hc : Il H ac cs) (hcl : cs.length ≤ 18) (hm : Il H am ms) (hml : ms.length ≤ 18) :
    acall tabA (aexec tabA Try.prog (N + 450)) 82 [.agg ⟨[.int .i64 C, .slice a l.length cap]⟩, .agg ⟨[.int .i64 w, .int .i64 ld]⟩, .slice ac cs.length kc, .chan r, .slice am ms.length km] H = some (true, .int .i64 (asked C l w ld cs [] ms), H, H.size) := by
  refine call_quiet (k := 48) (rs := [.tmp 10]) rfl fn_82 rfl rfl rfl ?_ rfl
  simp (disch := (first | (simp only [yk,seval]; done) | omega | (simp only [yz] <;> omega) | fail)) only [↓yp,yq0,yq1,yq2,yq3,yq4,yl,ys0,ys1,seval,zed,zee,zfr,zhw,ysu,yrg,ysv,ysw,ysx,ysz,ysa]
  rw [c22 (hs.fr (by (repeat (first | exact Fr.refl _ | assumption | refine Fr.allocd ?_ _ | refine Fr.put ?_ (by first | omega | (simp only [yz] <;> omega)) _)))) hl]
  simp (disch := (first | (simp only [yk,seval]; done) | omega | (simp only [yz] <;> omega) | fail)) only [↓yp,yq0,yq1,yq2,yq3,yq4,yl,ys0,ys1,seval,zed,zee,zfr,zhw,ysu,yrg,ysv,ysw,ysx,ysz,ysa]
  by_cases h0 : chk C l = 0
  rotate_left
  · have h0' : decide (chk C l = 0) = false := by simpa using h0
    simp (disch := (first | (simp only [yk,seval]; done) | omega | (simp only [yz] <;> omega) | fail)) only [↓yp,yq0,yq1,yq2,yq3,yq4,yl,ys0,ys1,seval,zed,zee,zfr,zhw,ysu,yrg,ysv,ysw,ysx,ysz,ysa,h0',asked,h0,ne_eq,not_false_eq_true]
  have h0' : decide (chk C l = 0) = true := by simpa using h0
  simp (disch := (first | (simp only [yk,seval]; done) | omega | (simp only [yz] <;> omega) | fail)) only [↓yp,yq0,yq1,yq2,yq3,yq4,yl,ys0,ys1,seval,zed,zee,zfr,zhw,ysu,yrg,ysv,ysw,ysx,ysz,ysa,h0',c78]
  refine ⟨fun hA => ?_, fun hA => ?_⟩
  rotate_left
  · have : off w 1 9 = true := by rw [wi_off] at hA; simpa using hA
    simp (disch := (first | (simp only [yk,seval]; done) | omega | (simp only [yz] <;> omega) | fail)) only [↓yp,yq0,yq1,yq2,yq3,yq4,yl,ys0,ys1,seval,zed,zee,zfr,zhw,ysu,yrg,ysv,ysw,ysx,ysz,ysa,hA,asked,h0,this,ne_eq,not_true_eq_false]
  have hA' : off w 1 9 = false := by rw [wi_off] at hA; simpa using hA
  simp (disch := (first | (simp only [yk,seval]; done) | omega | (simp only [yz] <;> omega) | fail)) only [↓yp,yq0,yq1,yq2,yq3,yq4,yl,ys0,ys1,seval,zed,zee,zfr,zhw,ysu,yrg,ysv,ysw,ysx,ysz,ysa,hA,c78]
  refine ⟨fun hB => ?_, fun hB => ?_⟩
  rotate_left
  · have : off ld 0 9 = true := by rw [wi_off] at hB; simpa using hB
    simp (disch := (first | (simp only [yk,seval]; done) | omega | (simp only [yz] <;> omega) | fail)) only [↓yp,yq0,yq1,yq2,yq3,yq4,yl,ys0,ys1,seval,zed,zee,zfr,zhw,ysu,yrg,ysv,ysw,ysx,ysz,ysa,hA,hB,asked,h0,hA',this,ne_eq,not_true_eq_false]
  have hB' : off ld 0 9 = false := by rw [wi_off] at hB; simpa using hB
  simp (disch := (first | (simp only [yk,seval]; done) | omega | (simp only [yz] <;> omega) | fail)) only [↓yp,yq0,yq1,yq2,yq3,yq4,yl,ys0,ys1,seval,zed,zee,zfr,zhw,ysu,yrg,ysv,ysw,ysx,ysz,ysa,hA,hB,c76]
  have hC := off_iff.1 (chk_ok h0).1
  have hwC : w64 (C - 1) = C - 1 := w64_of (by omega)
  have hwl : w64 ((l.length : Int) - 1) = (l.length : Int) - 1 := w64_of (by omega)
  have hnn : ¬ (off w 1 9 || off ld 0 9) = true := by rw [hA', hB']; simp
  refine c98r (fun n => wi n 0 (w64 (C - 1))) (hc.fr (by (repeat (first | exact Fr.refl _ | assumption | refine Fr.allocd ?_ _ | refine Fr.put ?_ (by first | omega | (simp only [yz] <;> omega)) _)))) hcl (fun N' H' n hf => ?_) (by omega) ?_
  · exact c116 (by rw [hf.same _ (by (first | omega | (simp only [yz] <;> omega)))]; simp (disch := (first | (simp only [yk,seval]; done) | omega | (simp only [yz] <;> omega) | fail)) only [↓yp,yq0,yq1,yq2,yq3,yq4,yl,ys0,ys1,seval,zed,zee,zfr,zhw,ysu,yrg,ysv,ysw,ysx,ysz,ysa])
  rw [all_any (q := fun n => off n 0 (C - 1)) (fun n => by rw [hwC, wi_off])]
  simp (disch := (first | (simp only [yk,seval]; done) | omega | (simp only [yz] <;> omega) | fail)) only [↓yp,yq0,yq1,yq2,yq3,yq4,yl,ys0,ys1,seval,zed,zee,zfr,zhw,ysu,yrg,ysv,ysw,ysx,ysz,ysa]
  refine ⟨fun hD => ?_, fun hD => ?_⟩
  · simp (disch := (first | (simp only [yk,seval]; done) | omega | (simp only [yz] <;> omega) | fail)) only [↓yp,yq0,yq1,yq2,yq3,yq4,yl,ys0,ys1,seval,zed,zee,zfr,zhw,ysu,yrg,ysv,ysw,ysx,ysz,ysa,hD]
    unfold asked
    rw [if_neg (by simpa using h0), if_neg hnn, if_pos hD]
  simp (disch := (first | (simp only [yk,seval]; done) | omega | (simp only [yz] <;> omega) | fail)) only [↓yp,yq0,yq1,yq2,yq3,yq4,yl,ys0,ys1,seval,zed,zee,zfr,zhw,ysu,yrg,ysv,ysw,ysx,ysz,ysa,hD,lenV_slice zio,c76]
  refine c98cr (by omega) ?_
  simp (disch := (first | (simp only [yk,seval]; done) | omega | (simp only [yz] <;> omega) | fail)) only [↓yp,yq0,yq1,yq2,yq3,yq4,yl,ys0,ys1,seval,zed,zee,zfr,zhw,ysu,yrg,ysv,ysw,ysx,ysz,ysa,hD]
  have hD' : ¬ (cs.any fun n => off n 0 (C - 1)) = true := by rw [hD]; simp
  have hE : (([] : List Int).any fun n => off n 0 ((l.length : Int) - 1)) = false := rfl
  refine c98r (fun n => wi n 0 240) (hm.fr (by (repeat (first | exact Fr.refl _ | assumption | refine Fr.allocd ?_ _ | refine Fr.put ?_ (by first | omega | (simp only [yz] <;> omega)) _)))) hml (fun N' H' n hf => c100) (by omega) ?_
  rw [all_any (q := fun n => off n 0 240) (fun n => by rw [wi_off])]
  simp (disch := (first | (simp only [yk,seval]; done) | omega | (simp only [yz] <;> omega) | fail)) only [↓yp,yq0,yq1,yq2,yq3,yq4,yl,ys0,ys1,seval,zed,zee,zfr,zhw,ysu,yrg,ysv,ysw,ysx,ysz,ysa,hD]
  have hE' : ¬ (([] : List Int).any fun n => off n 0 ((l.length : Int) - 1)) = true := by rw [hE]; simp
  refine ⟨fun hF => ?_, fun hF => ?_⟩
  · simp (disch := (first | (simp only [yk,seval]; done) | omega | (simp only [yz] <;> omega) | fail)) only [↓yp,yq0,yq1,yq2,yq3,yq4,yl,ys0,ys1,seval,zed,zee,zfr,zhw,ysu,yrg,ysv,ysw,ysx,ysz,ysa,hF]
    unfold asked
    rw [if_neg (by simpa using h0), if_neg hnn, if_neg hD', if_neg hE', if_pos hF]
  · simp (disch := (first | (simp only [yk,seval]; done) | omega | (simp only [yz] <;> omega) | fail)) only [↓yp,yq0,yq1,yq2,yq3,yq4,yl,ys0,ys1,seval,zed,zee,zfr,zhw,ysu,yrg,ysv,ysw,ysx,ysz,ysa,hF]
    unfold asked
    rw [if_neg (by simpa using h0), if_neg hnn, if_neg hD', if_neg hE', if_neg (by rw [hF]; simp)]

section
variable {l : List Str} {C w ld fr m : Int} {a : Option Addr} {r : Option Nat} {cap : Nat}
theorem exCC (hs : Sl H a l) (g : Good C l ld) (hl : l.length ≤ 18) : ExC H l C w ld a cap (.chan r) (fun i => ((bitN [] i : Nat) : Int)) (dnT []) (corT ([] : List Int).length) :=
  ⟨hs, g, hl, fun N H'' i f _ => c132c (N := N), (exCT (a := a) (sa := none) (cap := cap) (sc := 0) (w := w) hs Il.nil (by simp) g hl).or, corT_len (by simp), rfl, by simp [sameV]⟩
theorem c68c (hs : Sl H a l) (hl : l.length ≤ 18) (h0 : asked C l w ld [fr] [] [m] = 0) (hL : L ≤ H.size) {M : Nat} (hM : 21000 ≤ M)
    (hn : ∀ q H', (q = true → H' = H) → Fr H H' → (∀ m', ¬ CanS l w ld (nxt (dnT [])) (fr, 0) m m' (fr, ((2 ^ ([] : List Int).length - 1 : Nat) : Int))) → Q q (.tuple ⟨[.slice none 0 0, .int .i64 0, .int .i64 1]⟩) H')
    (hq : ∀ q v ls H' mm, (q = true → H' = H) → Fr H H' → RowL H' v ls H.size → Run l w ld (nxt (dnT [])) (fr, 0) m ls (fr, ((2 ^ ([] : List Int).length - 1 : Nat) : Int)) mm → ls.length ≤ 55 → CanS l w ld (nxt (dnT [])) (fr, 0) m mm (fr, ((2 ^ ([] : List Int).length - 1 : Nat) : Int)) → (∀ m', CanS l w ld (nxt (dnT [])) (fr, 0) m m' (fr, ((2 ^ ([] : List Int).length - 1 : Nat) : Int)) → mm ≤ m') → Q q (.tuple ⟨[v, .int .i64 mm, .int .i64 0]⟩) H') :
    resK (acall tabA (aexec tabA Try.prog M) 68 [.agg ⟨[.int .i64 C, .slice a l.length cap]⟩, .agg ⟨[.int .i64 w, .int .i64 ld]⟩, .int .i64 fr, .int .i64 m, .chan r] H) L Q :=
  c68v (t := []) hs hl (fun _ f g => exCC (hs.fr f) g hl) (fun _ => lenV_chan zir) (fun N _ _ => c113c (N := N)) (fun N _ k₁ k₂ f h1 h2 => c82c (cs := [fr]) (ms := [m]) (hs.fr f) hl (Il.one (lt_of_cells h1) h1) (by simp) (Il.one (lt_of_cells h2) h2) (by simp)) (by simp) List.nodup_nil h0 hL hM hn hq
end
end Go.Am
