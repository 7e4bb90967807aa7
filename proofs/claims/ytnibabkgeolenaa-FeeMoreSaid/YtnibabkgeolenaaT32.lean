/- What pounds cost: the functions of tariffs. -/
import Derived.Test.YtnibabkgeolenaaT31
set_option linter.unusedSimpArgs false
set_option linter.unusedVariables false
namespace Go.Am
open Go.Proofs
variable {T : Tab} {P : Program} {N L : Nat} {H : AHeap} {Q : Bool → Value → AHeap → Prop}
theorem c57 {n lo hi : Int} : acall tabA (aexec tabA Try.prog (N + 20)) 57 [.int .i64 n, .int .i64 lo, .int .i64 hi] H = some (true, .bool (wi n lo hi), H, H.size) := by
  refine call_quiet (k := 15) (rs := [.tmp 6]) rfl fn_57 rfl rfl rfl ?_ rfl
  unfold wi
  cases hA : decide (lo ≤ n)
  · simp (disch := (first | (simp only [ne_eq,Nat.reduceEqDiff,not_false_eq_true,Nat.reduceLT]; done) | omega | (simp only [yz] <;> omega) | fail)) only [↓yp,yq0,yq1,yq2,yq3,yq4,yl,ys0,ys1,Nat.reduceAdd,Nat.reduceMul,Nat.reduceSub,Nat.reduceBEq,Nat.reduceEqDiff,Nat.reduceLT,Nat.reduceLeDiff,reduceIte,Int.reduceAdd,Int.reduceSub,Int.reduceMul,Int.reduceLT,Int.reduceLE,Int.reduceEq,Int.reduceToNat,Int.reduceNeg,fitB,newC,endD,endR,yrg,hA]
  · simp (disch := (first | (simp only [ne_eq,Nat.reduceEqDiff,not_false_eq_true,Nat.reduceLT]; done) | omega | (simp only [yz] <;> omega) | fail)) only [↓yp,yq0,yq1,yq2,yq3,yq4,yl,ys0,ys1,Nat.reduceAdd,Nat.reduceMul,Nat.reduceSub,Nat.reduceBEq,Nat.reduceEqDiff,Nat.reduceLT,Nat.reduceLeDiff,reduceIte,Int.reduceAdd,Int.reduceSub,Int.reduceMul,Int.reduceLT,Int.reduceLE,Int.reduceEq,Int.reduceToNat,Int.reduceNeg,fitB,newC,endD,endR,yrg,hA]
/-- sum. -/
theorem c77 {a : Option Addr} {cap : Nat} {t : List Int} (hs : Rw intE H a t) (hl : t.length ≤ 64) (hb : ∀ x ∈ t, -1000000000000 ≤ x ∧ x ≤ 1000000000000) :
    acall tabA (aexec tabA Try.prog (N + 150)) 77 [.slice a t.length cap] H = some (true, .int .i64 (isum t), H, H.size) := by
  refine call_quiet (k := 17) (rs := [.tmp 2]) rfl fn_77 rfl rfl rfl ?_ rfl
  simp (disch := (first | (simp only [ne_eq,Nat.reduceEqDiff,not_false_eq_true,Nat.reduceLT]; done) | omega | (simp only [yz] <;> omega) | fail)) only [↓yp,yq0,yq1,yq2,yq3,yq4,yl,ys0,ys1,Nat.reduceAdd,Nat.reduceMul,Nat.reduceSub,Nat.reduceBEq,Nat.reduceEqDiff,Nat.reduceLT,Nat.reduceLeDiff,reduceIte,Int.reduceAdd,Int.reduceSub,Int.reduceMul,Int.reduceLT,Int.reduceLE,Int.reduceEq,Int.reduceToNat,Int.reduceNeg,fitB,newC,endD,endR,yrg,lenV_slice st_esS_40]
  refine W_while (n := 17) 40 (fun k e H' => ∃ i : Nat, k = t.length - i ∧ i ≤ t.length ∧ gt 17 e 8 = .int .i64 (i : Nat) ∧ gt 17 e 7 = .int .i64 t.length ∧ gt 17 e 6 = .slice a t.length cap ∧ gt 17 e 3 = .int .i64 (isum (t.take i)) ∧ H' = H)
    ?_ 64 t.length ⟨0, by omega, by omega, by simp (disch := (first | (simp only [ne_eq,Nat.reduceEqDiff,not_false_eq_true,Nat.reduceLT]; done) | omega | (simp only [yz] <;> omega) | fail)) only [yg,Nat.reduceAdd,Nat.reduceEqDiff,Nat.reduceLT]; rfl, by simp (disch := (first | (simp only [ne_eq,Nat.reduceEqDiff,not_false_eq_true,Nat.reduceLT]; done) | omega | (simp only [yz] <;> omega) | fail)) only [yg,Nat.reduceAdd,Nat.reduceEqDiff,Nat.reduceLT], by simp (disch := (first | (simp only [ne_eq,Nat.reduceEqDiff,not_false_eq_true,Nat.reduceLT]; done) | omega | (simp only [yz] <;> omega) | fail)) only [yg,Nat.reduceAdd,Nat.reduceEqDiff,Nat.reduceLT], by simp (disch := (first | (simp only [ne_eq,Nat.reduceEqDiff,not_false_eq_true,Nat.reduceLT]; done) | omega | (simp only [yz] <;> omega) | fail)) only [yg,Nat.reduceAdd,Nat.reduceEqDiff,Nat.reduceLT]; rfl, rfl⟩ (by omega) (by omega)
  rintro M k e H' ⟨i, rfl, hi, g8, g7, g6, g3, rfl⟩
  simp (disch := (first | (simp only [ne_eq,Nat.reduceEqDiff,not_false_eq_true,Nat.reduceLT]; done) | omega | (simp only [yz] <;> omega) | fail)) only [↓yp,yq0,yq1,yq2,yq3,yq4,yl,ys0,ys1,Nat.reduceAdd,Nat.reduceMul,Nat.reduceSub,Nat.reduceBEq,Nat.reduceEqDiff,Nat.reduceLT,Nat.reduceLeDiff,reduceIte,Int.reduceAdd,Int.reduceSub,Int.reduceMul,Int.reduceLT,Int.reduceLE,Int.reduceEq,Int.reduceToNat,Int.reduceNeg,fitB,newC,endD,endR,yrg,g8,g7]
  refine ⟨fun hA => ?_, fun hA => ?_⟩
  · have hi' : i < t.length := by simpa using hA
    obtain ⟨v, hv⟩ : ∃ v, t[i]? = some v := ⟨t[i], by simp [hi']⟩
    obtain ⟨b, o, c, rfl, hb', hc, hp⟩ := hs.at_ hv
    have q := cell_of hp
    rw [show i * intE.z = i * 1 from rfl, Nat.mul_one] at q
    have hv2 := hb v (List.mem_of_getElem? hv)
    have hs1 := isum_in (l := t.take i) (m := 1000000000000) fun x hx => hb x (List.mem_of_mem_take hx)
    have hl1 : (t.take i).length ≤ 64 := by rw [List.length_take]; omega
    have e1 : isum (t.take i) + v = isum (t.take (i + 1)) := by
      rw [List.take_add_one, hv, isum_app]; show _ = _ + (v + 0); omega
    have hw : w64 (isum (t.take i) + v) = isum (t.take (i + 1)) := by rw [w64_of (by omega), e1]
    have hw2 : w64 ((i : Int) + 1) = ((i + 1 : Nat) : Int) := by rw [w64_of (by omega)]; omega
    simp (disch := (first | (simp only [ne_eq,Nat.reduceEqDiff,not_false_eq_true,Nat.reduceLT]; done) | omega | (simp only [yz] <;> omega) | fail)) only [↓yp,yq0,yq1,yq2,yq3,yq4,yl,ys0,ys1,Nat.reduceAdd,Nat.reduceMul,Nat.reduceSub,Nat.reduceBEq,Nat.reduceEqDiff,Nat.reduceLT,Nat.reduceLeDiff,reduceIte,Int.reduceAdd,Int.reduceSub,Int.reduceMul,Int.reduceLT,Int.reduceLE,Int.reduceEq,Int.reduceToNat,Int.reduceNeg,fitB,newC,endD,endR,yrg,g8,g7,g6,g3,A_indexSlice st_esS_40,hc,q,hw,hw2]
    exact ⟨t.length - (i + 1), by omega, i + 1, rfl, by omega, by simp (disch := (first | (simp only [ne_eq,Nat.reduceEqDiff,not_false_eq_true,Nat.reduceLT]; done) | omega | (simp only [yz] <;> omega) | fail)) only [yg,Nat.reduceAdd,Nat.reduceEqDiff,Nat.reduceLT], by simp (disch := (first | (simp only [ne_eq,Nat.reduceEqDiff,not_false_eq_true,Nat.reduceLT]; done) | omega | (simp only [yz] <;> omega) | fail)) only [yg,Nat.reduceAdd,Nat.reduceEqDiff,Nat.reduceLT,g7], by simp (disch := (first | (simp only [ne_eq,Nat.reduceEqDiff,not_false_eq_true,Nat.reduceLT]; done) | omega | (simp only [yz] <;> omega) | fail)) only [yg,Nat.reduceAdd,Nat.reduceEqDiff,Nat.reduceLT,g6], by simp (disch := (first | (simp only [ne_eq,Nat.reduceEqDiff,not_false_eq_true,Nat.reduceLT]; done) | omega | (simp only [yz] <;> omega) | fail)) only [yg,Nat.reduceAdd,Nat.reduceEqDiff,Nat.reduceLT], rfl⟩
  · have hi' : i = t.length := by have : ¬ ((i : Int) < t.length) := by simpa using hA
                                  omega
    subst hi'
    rw [List.take_length] at g3
    simp (disch := (first | (simp only [ne_eq,Nat.reduceEqDiff,not_false_eq_true,Nat.reduceLT]; done) | omega | (simp only [yz] <;> omega) | fail)) only [↓yp,yq0,yq1,yq2,yq3,yq4,yl,ys0,ys1,Nat.reduceAdd,Nat.reduceMul,Nat.reduceSub,Nat.reduceBEq,Nat.reduceEqDiff,Nat.reduceLT,Nat.reduceLeDiff,reduceIte,Int.reduceAdd,Int.reduceSub,Int.reduceMul,Int.reduceLT,Int.reduceLE,Int.reduceEq,Int.reduceToNat,Int.reduceNeg,fitB,newC,endD,endR,yrg,g3]
theorem fl_int : ∀ t : List Int, intE.fl t = tv t
  | [] => rfl
  | x :: t => by show [Value.int .i64 x] ++ intE.fl t = .int .i64 x :: tv t; rw [fl_int t]; rfl
theorem Rw.int {b : Nat} {t : List Int} (hb : b < H.size) (h : cellsOf (H.get b) = some (tv t)) : Rw intE H (some ⟨b, 0, none⟩) t := Rw.of (r := []) hb h (by rw [List.append_nil, fl_int])
end Go.Am
/- What pounds cost. -/
namespace Go.Am
open Go.Proofs
variable {T : Tab} {P : Program} {N L : Nat} {H H' H'' : AHeap} {Q : Bool → Value → AHeap → Prop}
/-- A row that is made by append, with the blocks that are its own. -/
structure Gw (H : AHeap) (tb : Nat) (S : Nat → Prop) (v : Value) (i : Nat) (cs : List Value) (el z : Nat) : Prop where
  nil : i = 0 → v = .slice none 0 0
  cons : i ≠ 0 → ∃ b al, v = .slice (some ⟨b, 0, none⟩) i (OPEN + z) ∧ S b ∧ H.get b = .rw cs el true al ∧ (∀ j ∈ al, S j)
  own : ∀ j, S j → tb < j ∧ j < H.size
section
variable {tb i el z by' b cap : Nat} {S : Nat → Prop} {v sv : Value} {cs news : List Value}
theorem Gw.same (g : Gw H tb S v i cs el z) (h : H.size ≤ H'.size) (hs : ∀ j, S j → H'.get j = H.get j) : Gw H' tb S v i cs el z :=
  ⟨g.nil, fun h0 => by
    obtain ⟨b, al, h1, h2, h3, h4⟩ := g.cons h0
    exact ⟨b, al, h1, h2, by rw [hs b h2]; exact h3, h4⟩, fun j hj => ⟨(g.own j hj).1, Nat.lt_of_lt_of_le (g.own j hj).2 h⟩⟩
theorem Gw.fr (g : Gw H tb S v i cs el z) (f : Fr H H') : Gw H' tb S v i cs el z := g.same f.size fun j hj => f.same j (g.own j hj).2
theorem Gw.frx {k : Nat} (g : Gw H tb S v i cs el z) (hk : ¬ S k) (f : FrX k H H') : Gw H' tb S v i cs el z := g.same f.size fun j hj => f.same j (g.own j hj).2 (by rintro rfl; exact hk hj)
theorem Gw.put {j : Nat} (g : Gw H tb S v i cs el z) (hj : ¬ S j) (blk : ABlk) : Gw (H.put j blk) tb S v i cs el z := g.same (by rw [size_put]; exact Nat.le_refl _) fun q hq => get_put_ne (by rintro rfl; exact hj hq)
theorem Gw.none : Gw H tb (fun _ => False) (.slice none 0 0) 0 [] el z := ⟨fun _ => rfl, fun h => absurd rfl h, fun _ h => h.elim⟩
theorem gw_append {ty : TypeId} (hs : apS tabA ty = some (el, z, by')) (g : Gw H tb S sv i cs el z) (htb : tb < H.size) (hcs : cs.length = i * z) (hx : srcCells H ⟨b, 0, none⟩ (1 * z) = some news) (hb : (i + 1) * by' ≤ 140737488355328) (hn : i + 1 ≤ 9223372036854775807)
    (h1 : oneCells news = true) (hL : L ≤ tb) (hq : ∀ a' c' H', H.size < H'.size → (∀ j, j < H.size → ¬ S j → H'.get j = H.get j) → Gw H' tb (fun j => S j ∨ j = H.size) (.slice a' (i + 1) c') (i + 1) (cs ++ news) el z → Q false (.slice a' (i + 1) c') H') : apK tabA H ty sv (.slice (some ⟨b, 0, none⟩) 1 cap) L Q := by
  by_cases hi : i = 0
  · subst hi
    rw [g.nil rfl, apK_nil hs hx (by omega) (by omega) (by omega) h1, andK_of _ (by omega)]
    refine hq _ _ _ (by simp only [size_alloc]; omega) (fun k hk _ => get_alloc_lt (by omega)) ⟨fun h => by omega, fun _ => ⟨H.size, [], rfl, .inr rfl, ?_, by simp⟩, fun j hj => ?_⟩
    · have : cs = [] := List.length_eq_zero_iff.1 (by omega)
      subst this
      exact get_alloc_same
    · rcases hj with hj | rfl
      · have := g.own j hj
        simp only [size_alloc]; omega
      · simp only [size_alloc]; omega
  · obtain ⟨b₀, al, rfl, k1, k3, k4⟩ := g.cons hi
    have k2 := (g.own _ k1).1
    rw [apK_more hs hx (by omega) (by exact hb) (by omega) h1 k3 hcs rfl, andK_of _ (le_minAl (by omega) (fun j hj => by have := (g.own j (k4 j hj)).1; omega))]
    refine hq _ _ _ (by simp only [size_alloc,size_put,size_kill]; omega) (fun k hk hS => ?_) ⟨fun h => by omega, fun _ => ⟨H.size, [b₀], rfl, .inr rfl, ?_, by simpa using .inl k1⟩, fun j hj => ?_⟩
    · rw [get_alloc_lt (by simp only [size_put,size_kill]; omega), get_put_ne (by rintro rfl; exact hS k1), get_kill (fun hm => hS (k4 k hm))]
    · exact get_alloc_eq (by simp only [size_put,size_kill])
    · simp only [size_alloc,size_put,size_kill]
      rcases hj with hj | rfl
      · have := g.own j hj; omega
      · omega
end
/-- A slice of such things, none of them in one block. -/
structure Rx {α : Type} (k : Nat) (E : Enc α) (H : AHeap) (a : Option Addr) (l : List α) : Prop where
  rw : Rw E H a l
  ne : l ≠ [] → ∀ b o s, a = some ⟨b, o, s⟩ → b ≠ k
theorem Rx.frx {α : Type} {E : Enc α} {l : List α} {k : Nat} {a : Option Addr} (h : Rx k E H a l) (f : FrX k H H') : Rx k E H' a l := ⟨⟨fun hl => by
  obtain ⟨b, o, c, h1, h2, h3, h4⟩ := h.rw.get hl
  exact ⟨b, o, c, h1, Nat.lt_of_lt_of_le h2 f.size, by rw [f.same b h2 (h.ne hl _ _ _ h1)]; exact h3, h4⟩⟩, h.ne⟩
theorem Rx.fr {α : Type} {E : Enc α} {l : List α} {k : Nat} {a : Option Addr} (h : Rx k E H a l) (f : Fr H H') : Rx k E H' a l := ⟨h.rw.fr f, h.ne⟩
theorem Gw.rx {α : Type} {E : Enc α} {l : List α} {k tb c el : Nat} {S : Nat → Prop} {a : Option Addr} (g : Gw H tb S (.slice a l.length c) l.length (E.fl l) el E.z) (hk : ¬ S k) : Rx k E H a l := ⟨⟨fun hne => by
  obtain ⟨b, al, h1, h2, h4, h5⟩ := g.cons (by simpa using hne)
  cases h1
  exact (Rw.of (r := []) (g.own _ h2).2 (by rw [h4]; rfl) (by rw [List.append_nil])).get hne⟩, fun hne b o s e => by
  obtain ⟨b', al, h1, h2, h4, h5⟩ := g.cons (by simpa using hne)
  cases h1
  cases e
  exact fun e => hk (by rw [← e]; exact h2)⟩
theorem take_fl {α : Type} {E : Enc α} {l : List α} {x : α} {i : Nat} (h : l[i]? = some x) : E.fl (l.take i) ++ E.f x = E.fl (l.take (i + 1)) := by
  rw [List.take_add_one, h, fl_app]
  show _ = _ ++ (E.f x ++ [])
  rw [List.append_nil]
theorem Gw.low {tb i el z : Nat} {S : Nat → Prop} {v : Value} {cs : List Value} (g : Gw H tb S v i cs el z) : ∀ j, j ≤ tb → ¬ S j := fun j hj h => by have := (g.own j h).1; omega
/-- Blocks from one on. -/
def Up (tb : Nat) (x : Option Addr) : Prop := ∀ b o s, x = some ⟨b, o, s⟩ → tb ≤ b
theorem Up.none {tb : Nat} : Up tb none := fun _ _ _ h => by cases h
theorem Up.some {tb b o : Nat} {s : Option Nat} (h : tb ≤ b) : Up tb (some ⟨b, o, s⟩) := fun _ _ _ e => by cases e; exact h
theorem Rw.putU {α : Type} {E : Enc α} {tb j : Nat} {x : Option Addr} {l : List α} {blk : ABlk} (h : Rw E H x l) (hu : Up tb x) (hj : j < tb) : Rw E (H.put j blk) x l := ⟨fun hl => by
  obtain ⟨b, o, c, e1, h2, h3, h4⟩ := h.get hl
  have := hu _ _ _ e1
  exact ⟨b, o, c, e1, by rw [size_put]; exact h2, by rw [get_put_ne (by omega)]; exact h3, h4⟩⟩
theorem st_apS_40 : apS tabA 40 = some (3, 1, 8) := by kernel_rfl
end Go.Am
