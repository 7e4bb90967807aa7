/- Checks. -/
import Derived.Test.YtdjklljbninmgaaT18
set_option linter.unusedSimpArgs false
set_option linter.unusedVariables false
namespace Go.Am
open Go.Proofs
variable {N : Nat} {H : AHeap}

/-! ### Streets in memory -/
structure Str where
  fr : Int
  to : Int
  mi : Int
  up : Int
  wi : Int
  be : Int
  bk : Bool
  lo : Int
  hi : Int
def Str.enc (s : Str) : List Value := [.int .i64 s.fr, .int .i64 s.to, .int .i64 s.mi, .int .i64 s.up, .int .i64 s.wi, .int .i64 s.be, .bool s.bk, .int .i64 s.lo, .int .i64 s.hi]
def flat : List Str → List Value
  | [] => []
  | s :: l => s.enc ++ flat l
theorem enc_len (s : Str) : s.enc.length = 9 := rfl
theorem flat_length : ∀ l, (flat l).length = l.length * 9
  | [] => rfl
  | s :: l => by simp only [flat,List.length_append,flat_length l,List.length_cons,Str.enc,List.length_nil]; omega
theorem flat_drop : ∀ (l : List Str) (i : Nat) (s : Str), l[i]? = some s → ((flat l).drop (i * 9)).take 9 = s.enc
  | [], i, s, h => by simp at h
  | t :: l, 0, s, h => by
    simp only [List.getElem?_cons_zero,Option.some.injEq] at h
    subst h; rfl
  | t :: l, i + 1, s, h => by
    have : (i + 1) * 9 = 9 + i * 9 := by omega
    rw [this]
    show ((t.enc ++ flat l).drop (9 + i * 9)).take 9 = s.enc
    rw [← List.drop_drop]
    exact flat_drop l i s (by simpa using h)
theorem part_flat {l : List Str} {i : Nat} {s : Str} (h : l[i]? = some s) : part (flat l) (i * 9) 10 = some (.agg ⟨s.enc⟩) := by
  unfold part
  simp only [flat_drop l i s h]; rfl

def off (a lo hi : Int) : Bool := decide (a < lo) || decide (hi < a)
theorem c75 (a lo hi : Int) : acall tabA (aexec tabA Try.prog (N + 20)) 75 [.int .i64 a, .int .i64 lo, .int .i64 hi] H = some (true, .bool (off a lo hi), H, H.size) := by
  refine call_quiet (k := 15) (rs := [.tmp 6]) rfl fn_75 rfl rfl rfl ?_ rfl
  simp (disch := (first | (simp only [yk,seval]; done) | omega | (simp only [yz] <;> omega) | fail)) only [↓yp,yq0,yq1,yq2,yq3,yq4,yl,ys0,ys1,seval,zed,zee,zfr,zhw]
  refine ⟨fun h => ?_, fun h => ?_⟩ <;> simp (disch := (first | (simp only [yk,seval]; done) | omega | (simp only [yz] <;> omega) | fail)) only [↓yp,yq0,yq1,yq2,yq3,yq4,yl,ys0,ys1,seval,zed,zee,zfr,zhw,h,off,Bool.true_or,Bool.false_or]

/-- What was there is there still. -/
structure Fr (H H' : AHeap) : Prop where
  size : H.size ≤ H'.size
  same : ∀ k, k < H.size → H'.get k = H.get k
theorem Fr.refl (H : AHeap) : Fr H H := ⟨Nat.le_refl _, fun _ _ => rfl⟩
theorem Fr.trans {H H₁ H₂ : AHeap} (a : Fr H H₁) (b : Fr H₁ H₂) : Fr H H₂ := ⟨Nat.le_trans a.size b.size, fun k hk => (b.same k (Nat.lt_of_lt_of_le hk a.size)).trans (a.same k hk)⟩
theorem Fr.alloc (H : AHeap) (b : ABlk) : Fr H (H.alloc b) := ⟨by simp, fun k hk => zdb hk⟩
theorem Fr.allocd {H H' : AHeap} (a : Fr H H') (b : ABlk) : Fr H (H'.alloc b) := a.trans (Fr.alloc _ _)
theorem Fr.kill {H H' : AHeap} (a : Fr H H') {l : List Nat} (h : ∀ j ∈ l, H.size ≤ j) : Fr H (H'.kill l) := ⟨by simp [a.size], fun j hj => by rw [get_kill (fun hm => by have := h j hm; omega)]; exact a.same j hj⟩
theorem Fr.put {H H' : AHeap} (a : Fr H H') {k : Nat} (hk : H.size ≤ k) (b : ABlk) : Fr H (H'.put k b) := ⟨by simp [a.size], fun j hj => by rw [zdd (by omega)]; exact a.same j hj⟩

/-- The streets of a slice. -/
structure Sl (H : AHeap) (a : Option Addr) (l : List Str) : Prop where
  get : l ≠ [] → ∃ b o c, a = some ⟨b, o, none⟩ ∧ b < H.size ∧ cellsOf (H.get b) = some c ∧ ∀ i s, l[i]? = some s → part c (o + i * 9) 10 = some (.agg ⟨s.enc⟩)
  row : ∀ b o s c, l ≠ [] → a = some ⟨b, o, s⟩ → cellsOf (H.get b) = some c → (c.drop o).take (l.length * 9) = flat l
theorem Sl.fr {H H' : AHeap} {a : Option Addr} {l : List Str} (h : Sl H a l) (f : Fr H H') : Sl H' a l := ⟨fun hl => by
  obtain ⟨b, o, c, h1, h2, h3, h4⟩ := h.get hl
  exact ⟨b, o, c, h1, Nat.lt_of_lt_of_le h2 f.size, by rw [f.same b h2]; exact h3, h4⟩, fun b o s c hl ha hc => by
  obtain ⟨b', o', c', h1, h2, h3, h4⟩ := h.get hl
  subst h1
  cases ha
  exact h.row b o none c hl rfl (by rw [← f.same b h2]; exact hc)⟩
theorem Sl.src {H : AHeap} {b o : Nat} {s : Option Nat} {l : List Str} (h : Sl H (some ⟨b, o, s⟩) l) (hl : l ≠ []) : srcCells H ⟨b, o, s⟩ (l.length * 9) = some (flat l) := by
  obtain ⟨b', o', c', h1, h2, h3, h4⟩ := h.get hl
  cases h1
  unfold srcCells
  rw [h3]
  simp only [h.row b o none c' hl rfl h3,flat_length,show Nat.beq (l.length * 9) (l.length * 9) = true by simp,cond_true]

def bad1 (C : Int) (s : Str) : Bool := off s.fr 0 (C - 1) || (off s.to 0 (C - 1) || decide (s.fr = s.to))
def bad2 (s : Str) : Bool := off s.mi 1 30 || (off s.up 0 3 || (off s.wi 1 9 || (off s.be 0 9 || (off s.lo 0 239 || off s.hi 0 239))))
def chk (C : Int) (l : List Str) : Int := if off C 1 8 = true then 4 else if 16 < l.length then 3 else if l.any (bad1 C) = true then 2 else if l.any bad2 = true then 4 else 0

theorem any_true {α : Type} {p : α → Bool} {l : List α} {i : Nat} {s : α} (h : l[i]? = some s) (hp : p s = true) : l.any p = true := List.any_eq_true.2 ⟨s, List.mem_of_getElem? h, hp⟩
theorem any_false {α : Type} {p : α → Bool} {l : List α} (h : ∀ j s, j < l.length → l[j]? = some s → p s = false) : l.any p = false := by
  rw [List.any_eq_false]
  intro s hs
  obtain ⟨j, hj⟩ := List.getElem?_of_mem hs
  rw [h j s (List.getElem?_eq_some_iff.1 hj).1 hj]; simp
theorem off_iff {a lo hi : Int} : off a lo hi = false ↔ lo ≤ a ∧ a ≤ hi := by unfold off; simp

theorem c21 {a : Option Addr} {cap : Nat} {l : List Str} {C : Int} (hs : Sl H a l) : acall tabA (aexec tabA Try.prog (N + 200)) 21 [.agg ⟨[.int .i64 C, .slice a l.length cap]⟩] H = some (true, .int .i64 (chk C l), H, H.size) := by
  refine call_quiet (k := 89) (rs := [.tmp 2]) rfl fn_21 rfl rfl rfl ?_ rfl
  simp (disch := (first | (simp only [yk,seval]; done) | omega | (simp only [yz] <;> omega) | fail)) only [↓yp,yq0,yq1,yq2,yq3,yq4,yl,ys0,ys1,seval,zed,zee,zfr,zhw,c75,Nat.le_add_right,lenV_slice ziq,List.getElem?_cons_zero,List.getElem?_cons_succ]
  refine ⟨fun h => ?_, fun h => ?_⟩
  · simp (disch := (first | (simp only [yk,seval]; done) | omega | (simp only [yz] <;> omega) | fail)) only [↓yp,yq0,yq1,yq2,yq3,yq4,yl,ys0,ys1,seval,zed,zee,zfr,zhw,h,Nat.le_add_right,chk,if_true]
  simp (disch := (first | (simp only [yk,seval]; done) | omega | (simp only [yz] <;> omega) | fail)) only [↓yp,yq0,yq1,yq2,yq3,yq4,yl,ys0,ys1,seval,zed,zee,zfr,zhw,h,Nat.le_add_right,lenV_slice ziq,List.getElem?_cons_zero,List.getElem?_cons_succ]
  refine ⟨fun h2 => ?_, fun h2 => ?_⟩
  · have h3 : 16 < l.length := by simp at h2; omega
    simp (disch := (first | (simp only [yk,seval]; done) | omega | (simp only [yz] <;> omega) | fail)) only [↓yp,yq0,yq1,yq2,yq3,yq4,yl,ys0,ys1,seval,zed,zee,zfr,zhw,h,h2,h3,Nat.le_add_right,chk,if_true,Bool.false_eq_true,if_false]
  simp (disch := (first | (simp only [yk,seval]; done) | omega | (simp only [yz] <;> omega) | fail)) only [↓yp,yq0,yq1,yq2,yq3,yq4,yl,ys0,ys1,seval,zed,zee,zfr,zhw,h,h2,Nat.le_add_right,lenV_slice ziq,List.getElem?_cons_zero,List.getElem?_cons_succ]
  have h3 : l.length ≤ 16 := by simp at h2; omega
  refine W_while (n := 89) 40 (fun k e H' => ∃ i, k = l.length - i ∧ i ≤ l.length ∧ gt 89 e 3 = .int .i64 (i : Nat) ∧ gt 89 e 1 = .pointer (some ⟨H.size, 0, none⟩) ∧ gt 89 e 2 = .int .i64 0 ∧ Fr (H.alloc (.rw [.int .i64 C, .slice a l.length cap] 34 false [])) H' ∧ ∀ j s, j < i → l[j]? = some s → bad1 C s = false)
    ?_ 18 l.length ⟨0, by omega, by omega, by simp (disch := (first | (simp only [yk,seval]; done) | omega | (simp only [yz] <;> omega) | fail)) only [yg,Nat.reduceAdd,Nat.reduceEqDiff,Nat.reduceLT]; rfl, by simp (disch := (first | (simp only [yk,seval]; done) | omega | (simp only [yz] <;> omega) | fail)) only [yg,Nat.reduceAdd,Nat.reduceEqDiff,Nat.reduceLT], by simp (disch := (first | (simp only [yk,seval]; done) | omega | (simp only [yz] <;> omega) | fail)) only [yg,Nat.reduceAdd,Nat.reduceEqDiff,Nat.reduceLT], Fr.refl _, fun j s hj => by omega⟩ (by omega) (by omega)
  rintro M k e H' ⟨i, rfl, hi, g3, g1, g2, fr, hj⟩
  have f0 := fr.size
  simp only [zde] at f0
  have fs := fr.same
  simp (disch := (first | (simp only [yk,seval]; done) | omega | (simp only [yz] <;> omega) | fail)) only [↓yp,yq0,yq1,yq2,yq3,yq4,yl,ys0,ys1,seval,zed,zee,zfr,zhw,g3,g1,fs,lenV_slice ziq,List.getElem?_cons_zero,List.getElem?_cons_succ]
  refine ⟨fun hlt => ?_, fun hlt => ?_⟩
  · have hi' : i < l.length := by simpa using hlt
    obtain ⟨b, o, c, rfl, hb, hc, hp⟩ := hs.get (by intro h; subst h; simp at hi')
    obtain ⟨s, his⟩ : ∃ s, l[i]? = some s := ⟨l[i], by simp [hi']⟩
    have hpi := hp i s his
    simp (disch := (first | (simp only [yk,seval]; done) | omega | (simp only [yz] <;> omega) | fail)) only [↓yp,yq0,yq1,yq2,yq3,yq4,yl,ys0,ys1,seval,zed,zee,zfr,zhw,g3,g1,fs,hlt,lenV_slice ziq,List.getElem?_cons_zero,List.getElem?_cons_succ,A_indexSlice ziq,hc,hpi,Str.enc]
    have hC := off_iff.1 h
    have hw : w64 (C - 1) = C - 1 := w64_of (by omega)
    have hr : ∀ v, (Value.int .i64 2 = Value.int .i64 v) = (2 = v) := fun v => by simp
    simp (disch := (first | (simp only [yk,seval]; done) | omega | (simp only [yz] <;> omega) | fail)) only [↓yp,yq0,yq1,yq2,yq3,yq4,yl,ys0,ys1,seval,zed,zee,zfr,zhw,g3,g1,fs,lenV_slice ziq,List.getElem?_cons_zero,List.getElem?_cons_succ,A_indexSlice ziq,hc,hpi,Str.enc,c75,hw]
    have bad : bad1 C s = true → chk C l = 2 := fun hb => by unfold chk; rw [if_neg (by rw [h]; simp), if_neg (by omega), if_pos (any_true his hb)]
    have good : bad1 C s = false → ∀ j t, j < i + 1 → l[j]? = some t → bad1 C t = false := fun hb j t hj' ht => by
      by_cases e : j = i
      · subst e; rw [his] at ht; cases ht; exact hb
      · exact hj j t (by omega) ht
    refine ⟨fun hA => ?_, fun hA => ?_⟩
    · simp (disch := (first | (simp only [yk,seval]; done) | omega | (simp only [yz] <;> omega) | fail)) only [↓yp,yq0,yq1,yq2,yq3,yq4,yl,ys0,ys1,seval,zed,zee,zfr,zhw,hA,g3,g1,fs,List.getElem?_cons_zero,List.getElem?_cons_succ]
      rw [bad (by simp [bad1, hA])]
    simp (disch := (first | (simp only [yk,seval]; done) | omega | (simp only [yz] <;> omega) | fail)) only [↓yp,yq0,yq1,yq2,yq3,yq4,yl,ys0,ys1,seval,zed,zee,zfr,zhw,hA,g3,g1,fs,List.getElem?_cons_zero,List.getElem?_cons_succ,c75,hw]
    refine ⟨fun hB => ?_, fun hB => ?_⟩
    · simp (disch := (first | (simp only [yk,seval]; done) | omega | (simp only [yz] <;> omega) | fail)) only [↓yp,yq0,yq1,yq2,yq3,yq4,yl,ys0,ys1,seval,zed,zee,zfr,zhw,hA,hB,g3,g1,fs,List.getElem?_cons_zero,List.getElem?_cons_succ]
      rw [bad (by simp [bad1, hB])]
    simp (disch := (first | (simp only [yk,seval]; done) | omega | (simp only [yz] <;> omega) | fail)) only [↓yp,yq0,yq1,yq2,yq3,yq4,yl,ys0,ys1,seval,zed,zee,zfr,zhw,hA,hB,g3,g1,fs,List.getElem?_cons_zero,List.getElem?_cons_succ]
    refine ⟨fun hE => ?_, fun hE => ?_⟩
    · simp (disch := (first | (simp only [yk,seval]; done) | omega | (simp only [yz] <;> omega) | fail)) only [↓yp,yq0,yq1,yq2,yq3,yq4,yl,ys0,ys1,seval,zed,zee,zfr,zhw,hA,hB,hE,g3,g1,fs,List.getElem?_cons_zero,List.getElem?_cons_succ]
      rw [bad (by simp [bad1, hE])]
    have hw2 : w64 ((i : Int) + 1) = ((i + 1 : Nat) : Int) := by rw [w64_of (by omega)]; omega
    simp (disch := (first | (simp only [yk,seval]; done) | omega | (simp only [yz] <;> omega) | fail)) only [↓yp,yq0,yq1,yq2,yq3,yq4,yl,ys0,ys1,seval,zed,zee,zfr,zhw,hA,hB,hE,g3,g1,fs,List.getElem?_cons_zero,List.getElem?_cons_succ,hw2]
    refine ⟨l.length - (i + 1), by omega, i + 1, rfl, by omega, ?_, ?_, ?_, ?_, good (by simp [bad1, hA, hB, hE])⟩
    · simp (disch := (first | (simp only [yk,seval]; done) | omega | (simp only [yz] <;> omega) | fail)) only [yg,Nat.reduceAdd,Nat.reduceEqDiff,Nat.reduceLT]
    · simp (disch := (first | (simp only [yk,seval]; done) | omega | (simp only [yz] <;> omega) | fail)) only [yg,Nat.reduceAdd,Nat.reduceEqDiff,Nat.reduceLT,g1]
    · simp (disch := (first | (simp only [yk,seval]; done) | omega | (simp only [yz] <;> omega) | fail)) only [yg,Nat.reduceAdd,Nat.reduceEqDiff,Nat.reduceLT,g2]
    · exact (fr.allocd _).put (by simp only [zde]; omega) _
  have any1 : l.any (bad1 C) = false := any_false fun j s hj' hs' => hj j s (by have : ¬ i < l.length := (by simpa using hlt); omega) hs'
  simp (disch := (first | (simp only [yk,seval]; done) | omega | (simp only [yz] <;> omega) | fail)) only [↓yp,yq0,yq1,yq2,yq3,yq4,yl,ys0,ys1,seval,zed,zee,zfr,zhw,g1,fs,hlt]
  refine W_while (n := 89) 40 (fun k e H' => ∃ i, k = l.length - i ∧ i ≤ l.length ∧ gt 89 e 5 = .int .i64 (i : Nat) ∧ gt 89 e 1 = .pointer (some ⟨H.size, 0, none⟩) ∧ gt 89 e 2 = .int .i64 0 ∧ Fr (H.alloc (.rw [.int .i64 C, .slice a l.length cap] 34 false [])) H' ∧ ∀ j s, j < i → l[j]? = some s → bad2 s = false)
    ?_ 18 l.length ⟨0, by omega, by omega, by simp (disch := (first | (simp only [yk,seval]; done) | omega | (simp only [yz] <;> omega) | fail)) only [yg,Nat.reduceAdd,Nat.reduceEqDiff,Nat.reduceLT]; rfl, by simp (disch := (first | (simp only [yk,seval]; done) | omega | (simp only [yz] <;> omega) | fail)) only [yg,Nat.reduceAdd,Nat.reduceEqDiff,Nat.reduceLT,g1], by simp (disch := (first | (simp only [yk,seval]; done) | omega | (simp only [yz] <;> omega) | fail)) only [yg,Nat.reduceAdd,Nat.reduceEqDiff,Nat.reduceLT,g2], fr, fun j s hj => by omega⟩ (by omega) (by omega)
  clear hlt hj hi g3 g1 g2 fs f0 fr i
  clear e H'
  rintro M' k e H' ⟨i, rfl, hi, g3, g1, g2, fr, hj⟩
  have f0 := fr.size
  simp only [zde] at f0
  have fs := fr.same
  simp (disch := (first | (simp only [yk,seval]; done) | omega | (simp only [yz] <;> omega) | fail)) only [↓yp,yq0,yq1,yq2,yq3,yq4,yl,ys0,ys1,seval,zed,zee,zfr,zhw,g3,g1,fs,lenV_slice ziq,List.getElem?_cons_zero,List.getElem?_cons_succ]
  refine ⟨fun hlt => ?_, fun hlt => ?_⟩
  · have hi' : i < l.length := by simpa using hlt
    obtain ⟨b, o, c, rfl, hb, hc, hp⟩ := hs.get (by intro h; subst h; simp at hi')
    obtain ⟨s, his⟩ : ∃ s, l[i]? = some s := ⟨l[i], by simp [hi']⟩
    have hpi := hp i s his
    simp (disch := (first | (simp only [yk,seval]; done) | omega | (simp only [yz] <;> omega) | fail)) only [↓yp,yq0,yq1,yq2,yq3,yq4,yl,ys0,ys1,seval,zed,zee,zfr,zhw,g3,g1,fs,lenV_slice ziq,List.getElem?_cons_zero,List.getElem?_cons_succ,A_indexSlice ziq,hc,hpi,Str.enc,c75]
    have bad : bad2 s = true → chk C l = 4 := fun hb => by unfold chk; rw [if_neg (by rw [h]; simp), if_neg (by omega), if_neg (by rw [any1]; simp), if_pos (any_true his hb)]
    have good : bad2 s = false → ∀ j t, j < i + 1 → l[j]? = some t → bad2 t = false := fun hb j t hj' ht => by
      by_cases e : j = i
      · subst e; rw [his] at ht; cases ht; exact hb
      · exact hj j t (by omega) ht
    refine ⟨fun hA1 => ?_, fun hA1 => ?_⟩
    · simp (disch := (first | (simp only [yk,seval]; done) | omega | (simp only [yz] <;> omega) | fail)) only [↓yp,yq0,yq1,yq2,yq3,yq4,yl,ys0,ys1,seval,zed,zee,zfr,zhw,hA1,g3,g1,fs,List.getElem?_cons_zero,List.getElem?_cons_succ]
      rw [bad (by simp [bad2, hA1])]
    simp (disch := (first | (simp only [yk,seval]; done) | omega | (simp only [yz] <;> omega) | fail)) only [↓yp,yq0,yq1,yq2,yq3,yq4,yl,ys0,ys1,seval,zed,zee,zfr,zhw,hA1,g3,g1,fs,List.getElem?_cons_zero,List.getElem?_cons_succ,c75]
    refine ⟨fun hA2 => ?_, fun hA2 => ?_⟩
    · simp (disch := (first | (simp only [yk,seval]; done) | omega | (simp only [yz] <;> omega) | fail)) only [↓yp,yq0,yq1,yq2,yq3,yq4,yl,ys0,ys1,seval,zed,zee,zfr,zhw,hA1,hA2,g3,g1,fs,List.getElem?_cons_zero,List.getElem?_cons_succ]
      rw [bad (by simp [bad2, hA1, hA2])]
    simp (disch := (first | (simp only [yk,seval]; done) | omega | (simp only [yz] <;> omega) | fail)) only [↓yp,yq0,yq1,yq2,yq3,yq4,yl,ys0,ys1,seval,zed,zee,zfr,zhw,hA1,hA2,g3,g1,fs,List.getElem?_cons_zero,List.getElem?_cons_succ,c75]
    refine ⟨fun hA3 => ?_, fun hA3 => ?_⟩
    · simp (disch := (first | (simp only [yk,seval]; done) | omega | (simp only [yz] <;> omega) | fail)) only [↓yp,yq0,yq1,yq2,yq3,yq4,yl,ys0,ys1,seval,zed,zee,zfr,zhw,hA1,hA2,hA3,g3,g1,fs,List.getElem?_cons_zero,List.getElem?_cons_succ]
      rw [bad (by simp [bad2, hA1, hA2, hA3])]
    simp (disch := (first | (simp only [yk,seval]; done) | omega | (simp only [yz] <;> omega) | fail)) only [↓yp,yq0,yq1,yq2,yq3,yq4,yl,ys0,ys1,seval,zed,zee,zfr,zhw,hA1,hA2,hA3,g3,g1,fs,List.getElem?_cons_zero,List.getElem?_cons_succ,c75]
    refine ⟨fun hA4 => ?_, fun hA4 => ?_⟩
    · simp (disch := (first | (simp only [yk,seval]; done) | omega | (simp only [yz] <;> omega) | fail)) only [↓yp,yq0,yq1,yq2,yq3,yq4,yl,ys0,ys1,seval,zed,zee,zfr,zhw,hA1,hA2,hA3,hA4,g3,g1,fs,List.getElem?_cons_zero,List.getElem?_cons_succ]
      rw [bad (by simp [bad2, hA1, hA2, hA3, hA4])]
    simp (disch := (first | (simp only [yk,seval]; done) | omega | (simp only [yz] <;> omega) | fail)) only [↓yp,yq0,yq1,yq2,yq3,yq4,yl,ys0,ys1,seval,zed,zee,zfr,zhw,hA1,hA2,hA3,hA4,g3,g1,fs,List.getElem?_cons_zero,List.getElem?_cons_succ,c75]
    refine ⟨fun hA5 => ?_, fun hA5 => ?_⟩
    · simp (disch := (first | (simp only [yk,seval]; done) | omega | (simp only [yz] <;> omega) | fail)) only [↓yp,yq0,yq1,yq2,yq3,yq4,yl,ys0,ys1,seval,zed,zee,zfr,zhw,hA1,hA2,hA3,hA4,hA5,g3,g1,fs,List.getElem?_cons_zero,List.getElem?_cons_succ]
      rw [bad (by simp [bad2, hA1, hA2, hA3, hA4, hA5])]
    simp (disch := (first | (simp only [yk,seval]; done) | omega | (simp only [yz] <;> omega) | fail)) only [↓yp,yq0,yq1,yq2,yq3,yq4,yl,ys0,ys1,seval,zed,zee,zfr,zhw,hA1,hA2,hA3,hA4,hA5,g3,g1,fs,List.getElem?_cons_zero,List.getElem?_cons_succ,c75]
    refine ⟨fun hA6 => ?_, fun hA6 => ?_⟩
    · simp (disch := (first | (simp only [yk,seval]; done) | omega | (simp only [yz] <;> omega) | fail)) only [↓yp,yq0,yq1,yq2,yq3,yq4,yl,ys0,ys1,seval,zed,zee,zfr,zhw,hA1,hA2,hA3,hA4,hA5,hA6,g3,g1,fs,List.getElem?_cons_zero,List.getElem?_cons_succ]
      rw [bad (by simp [bad2, hA1, hA2, hA3, hA4, hA5, hA6])]
    have hw2 : w64 ((i : Int) + 1) = ((i + 1 : Nat) : Int) := by rw [w64_of (by omega)]; omega
    simp (disch := (first | (simp only [yk,seval]; done) | omega | (simp only [yz] <;> omega) | fail)) only [↓yp,yq0,yq1,yq2,yq3,yq4,yl,ys0,ys1,seval,zed,zee,zfr,zhw,hA1,hA2,hA3,hA4,hA5,hA6,g3,g1,fs,List.getElem?_cons_zero,List.getElem?_cons_succ,hw2]
    refine ⟨l.length - (i + 1), by omega, i + 1, rfl, by omega, ?_, ?_, ?_, ?_, good (by simp [bad2, hA1, hA2, hA3, hA4, hA5, hA6])⟩
    · simp (disch := (first | (simp only [yk,seval]; done) | omega | (simp only [yz] <;> omega) | fail)) only [yg,Nat.reduceAdd,Nat.reduceEqDiff,Nat.reduceLT]
    · simp (disch := (first | (simp only [yk,seval]; done) | omega | (simp only [yz] <;> omega) | fail)) only [yg,Nat.reduceAdd,Nat.reduceEqDiff,Nat.reduceLT,g1]
    · simp (disch := (first | (simp only [yk,seval]; done) | omega | (simp only [yz] <;> omega) | fail)) only [yg,Nat.reduceAdd,Nat.reduceEqDiff,Nat.reduceLT,g2]
    · exact (fr.allocd _).put (by simp only [zde]; omega) _
  have any2 : l.any bad2 = false := any_false fun j s hj' hs' => hj j s (by have : ¬ i < l.length := (by simpa using hlt); omega) hs'
  simp (disch := (first | (simp only [yk,seval]; done) | omega | (simp only [yz] <;> omega) | fail)) only [↓yp,yq0,yq1,yq2,yq3,yq4,yl,ys0,ys1,seval,zed,zee,zfr,zhw,g1,g2,fs,hlt]
  unfold chk
  rw [if_neg (by rw [h]; simp), if_neg (by omega), if_neg (by rw [any1]; simp), if_neg (by rw [any2]; simp)]
end Go.Am
