/- Rows of numbers that are alike; what the law StreetMinutes lays. -/
import Derived.Test.YthchcnbmegglcaaT35
import Derived.Test.YthchcnbmegglcaaT27
set_option linter.unusedSimpArgs false
set_option linter.unusedVariables false
namespace Go.Am
open Go.Proofs
variable {T : Tab} {P : Program} {N L : Nat} {H : AHeap} {Q : Bool → Value → AHeap → Prop}

/-- Rows of numbers that are the same are alike. -/
theorem c33 {a a' : Option Addr} {cap cap' : Nat} {t : List Int} (hs : Il H a t) (hs' : Il H a' t) (hl : t.length ≤ 8) :
    acall tabA (aexec tabA Try.prog (N + 100)) 33 [.slice a t.length cap, .slice a' t.length cap'] H = some (true, .bool true, H, H.size) := by
  refine call_quiet (k := 26) (rs := [.tmp 4]) rfl fn_33 rfl rfl rfl ?_ rfl
  have hcc : ∀ x : Int, decide (x = x) = true := fun x => by simp
  simp (disch := (first | (simp only [ne_eq,Nat.reduceEqDiff,not_false_eq_true,Nat.reduceLT]; done) | omega | (simp only [yz] <;> omega) | fail)) only [↓yp,yq0,yq1,yq2,yq3,yq4,yl,ys0,ys1,Nat.reduceAdd,Nat.reduceMul,Nat.reduceSub,Nat.reduceBEq,Nat.reduceEqDiff,Nat.reduceLT,Nat.reduceLeDiff,reduceIte,Int.reduceAdd,Int.reduceSub,Int.reduceMul,Int.reduceLT,Int.reduceLE,Int.reduceEq,Int.reduceToNat,Int.reduceNeg,zed,zee,zfr,zhw,ysu,yrg,lenV_slice zir,hcc]
  refine W_while (n := 26) 40 (fun k e H' => ∃ i : Nat, k = t.length - i ∧ i ≤ t.length ∧ gt 26 e 14 = .int .i64 (i : Nat) ∧ gt 26 e 13 = .int .i64 t.length ∧ gt 26 e 12 = .slice a t.length cap ∧ gt 26 e 1 = .slice a' t.length cap' ∧ H' = H)
    ?_ 8 t.length ⟨0, by omega, by omega, by simp (disch := (first | (simp only [ne_eq,Nat.reduceEqDiff,not_false_eq_true,Nat.reduceLT]; done) | omega | (simp only [yz] <;> omega) | fail)) only [yg,Nat.reduceAdd,Nat.reduceEqDiff,Nat.reduceLT]; rfl, by simp (disch := (first | (simp only [ne_eq,Nat.reduceEqDiff,not_false_eq_true,Nat.reduceLT]; done) | omega | (simp only [yz] <;> omega) | fail)) only [yg,Nat.reduceAdd,Nat.reduceEqDiff,Nat.reduceLT], by simp (disch := (first | (simp only [ne_eq,Nat.reduceEqDiff,not_false_eq_true,Nat.reduceLT]; done) | omega | (simp only [yz] <;> omega) | fail)) only [yg,Nat.reduceAdd,Nat.reduceEqDiff,Nat.reduceLT], by simp (disch := (first | (simp only [ne_eq,Nat.reduceEqDiff,not_false_eq_true,Nat.reduceLT]; done) | omega | (simp only [yz] <;> omega) | fail)) only [yg,Nat.reduceAdd,Nat.reduceEqDiff,Nat.reduceLT], rfl⟩ (by omega) (by omega)
  rintro M k e H' ⟨i, rfl, hi, g14, g13, g12, g1, rfl⟩
  simp (disch := (first | (simp only [ne_eq,Nat.reduceEqDiff,not_false_eq_true,Nat.reduceLT]; done) | omega | (simp only [yz] <;> omega) | fail)) only [↓yp,yq0,yq1,yq2,yq3,yq4,yl,ys0,ys1,Nat.reduceAdd,Nat.reduceMul,Nat.reduceSub,Nat.reduceBEq,Nat.reduceEqDiff,Nat.reduceLT,Nat.reduceLeDiff,reduceIte,Int.reduceAdd,Int.reduceSub,Int.reduceMul,Int.reduceLT,Int.reduceLE,Int.reduceEq,Int.reduceToNat,Int.reduceNeg,zed,zee,zfr,zhw,ysu,yrg,g14,g13]
  refine ⟨fun hA => ?_, fun hA => ?_⟩
  · have hi' : i < t.length := by simpa using hA
    have hne : t ≠ [] := fun h => by rw [h] at hi'; simp at hi'
    obtain ⟨b, o, c, rfl, hb, hc, hp⟩ := hs.get hne
    obtain ⟨b', o', c', rfl, hb', hc', hp'⟩ := hs'.get hne
    obtain ⟨v, hv⟩ : ∃ v, t[i]? = some v := ⟨t[i], by simp [hi']⟩
    have q := hp i v hv
    have q' := hp' i v hv
    have hw2 : w64 ((i : Int) + 1) = ((i + 1 : Nat) : Int) := by rw [w64_of (by omega)]; omega
    simp (disch := (first | (simp only [ne_eq,Nat.reduceEqDiff,not_false_eq_true,Nat.reduceLT]; done) | omega | (simp only [yz] <;> omega) | fail)) only [↓yp,yq0,yq1,yq2,yq3,yq4,yl,ys0,ys1,Nat.reduceAdd,Nat.reduceMul,Nat.reduceSub,Nat.reduceBEq,Nat.reduceEqDiff,Nat.reduceLT,Nat.reduceLeDiff,reduceIte,Int.reduceAdd,Int.reduceSub,Int.reduceMul,Int.reduceLT,Int.reduceLE,Int.reduceEq,Int.reduceToNat,Int.reduceNeg,zed,zee,zfr,zhw,ysu,yrg,g14,g13,g12,g1,A_indexSlice zir,hc,hc',q,q',hcc,hw2]
    exact ⟨t.length - (i + 1), by omega, i + 1, rfl, by omega, by simp (disch := (first | (simp only [ne_eq,Nat.reduceEqDiff,not_false_eq_true,Nat.reduceLT]; done) | omega | (simp only [yz] <;> omega) | fail)) only [yg,Nat.reduceAdd,Nat.reduceEqDiff,Nat.reduceLT], by simp (disch := (first | (simp only [ne_eq,Nat.reduceEqDiff,not_false_eq_true,Nat.reduceLT]; done) | omega | (simp only [yz] <;> omega) | fail)) only [yg,Nat.reduceAdd,Nat.reduceEqDiff,Nat.reduceLT,g13], by simp (disch := (first | (simp only [ne_eq,Nat.reduceEqDiff,not_false_eq_true,Nat.reduceLT]; done) | omega | (simp only [yz] <;> omega) | fail)) only [yg,Nat.reduceAdd,Nat.reduceEqDiff,Nat.reduceLT,g12], by simp (disch := (first | (simp only [ne_eq,Nat.reduceEqDiff,not_false_eq_true,Nat.reduceLT]; done) | omega | (simp only [yz] <;> omega) | fail)) only [yg,Nat.reduceAdd,Nat.reduceEqDiff,Nat.reduceLT,g1], rfl⟩
  · simp (disch := (first | (simp only [ne_eq,Nat.reduceEqDiff,not_false_eq_true,Nat.reduceLT]; done) | omega | (simp only [yz] <;> omega) | fail)) only [↓yp,yq0,yq1,yq2,yq3,yq4,yl,ys0,ys1,Nat.reduceAdd,Nat.reduceMul,Nat.reduceSub,Nat.reduceBEq,Nat.reduceEqDiff,Nat.reduceLT,Nat.reduceLeDiff,reduceIte,Int.reduceAdd,Int.reduceSub,Int.reduceMul,Int.reduceLT,Int.reduceLE,Int.reduceEq,Int.reduceToNat,Int.reduceNeg,zed,zee,zfr,zhw,ysu,yrg]
theorem asked_of {C w ld : Int} {l : List Str} {cs ss ms : List Int} (hc : chk C l = 0) (hw : off w 1 9 = false) (hd : off ld 0 9 = false) (h1 : ∀ n ∈ cs, 0 ≤ n ∧ n ≤ C - 1) (h2 : ∀ n ∈ ss, 0 ≤ n ∧ n ≤ (l.length : Int) - 1) (h3 : ∀ n ∈ ms, 0 ≤ n ∧ n ≤ 240) : asked C l w ld cs ss ms = 0 := by
  have key : ∀ {l : List Int} {x y : Int}, (∀ n ∈ l, x ≤ n ∧ n ≤ y) → (l.any fun n => off n x y) = false := fun {l x y} h => by
    rw [List.any_eq_false]
    intro n hn
    rw [off_iff.2 (h n hn)]; simp
  unfold asked
  rw [if_neg (by simpa using hc), hw, hd, key h1, key h2, key h3]
  simp
/-- A row of minutes. -/
def Mi (H : AHeap) (v : Value) (t : List Int) : Prop := ∃ k cap, v = .slice (some ⟨k, 0, none⟩) t.length cap ∧ k < H.size ∧ ∃ op al, H.get k = .rw (tv t) 3 op al
theorem Mi.fr {H H' : AHeap} {v : Value} {t : List Int} (h : Mi H v t) (f : Fr H H') : Mi H' v t := by
  obtain ⟨k, cap, h1, h2, op, al, h3⟩ := h
  exact ⟨k, cap, h1, Nat.lt_of_lt_of_le h2 f.size, op, al, by rw [f.same k h2]; exact h3⟩
/-- Minutes, or none. -/
def Wn (H : AHeap) (v : Value) (q : Int) (t : List Int) : Prop := (q = 0 ∧ Mi H v t) ∨ (q ≠ 0 ∧ v = .slice none 0 0)
theorem Wn.fr {H H' : AHeap} {v : Value} {q : Int} {t : List Int} (h : Wn H v q t) (f : Fr H H') : Wn H' v q t := by
  rcases h with ⟨h1, h2⟩ | h
  · exact .inl ⟨h1, h2.fr f⟩
  · exact .inr h
theorem Wn.same {v v' : Value} {q : Int} {t : List Int} (h : Wn H v q t) (h' : Wn H v' q t) (hl : t.length ≤ 8 ∨ q ≠ 0) : acall tabA (aexec tabA Try.prog (N + 100)) 33 [v, v'] H = some (true, .bool true, H, H.size) := by
  rcases h with ⟨h1, k, cap, rfl, h2, op, al, h3⟩ | ⟨h1, rfl⟩
  · rcases h' with ⟨_, k', cap', rfl, h2', op', al', h3'⟩ | ⟨h1', rfl⟩
    · exact c33 (Il.of h2 (by rw [h3]; rfl)) (Il.of h2' (by rw [h3']; rfl)) (hl.resolve_right (fun h => h h1))
    · exact absurd h1 h1'
  · rcases h' with ⟨h1', _⟩ | ⟨_, rfl⟩
    · exact absurd h1' h1
    · exact c33 (t := []) Il.nil Il.nil (by simp)

/-- What the law knows when its own town and that of the reference are laid. -/
structure LaidM (H : AHeap) (a : Option Addr) (cap : Nat) (l : List Str) (C w ld fr to m bm : Int) (e : VT) (H' : AHeap) (a1 : Option Addr) (cap1 : Nat) (a2 : Option Addr) (cap2 : Nat) : Prop where
  g2 : gt 152 e 2 = .int .i64 fr
  g3 : gt 152 e 3 = .int .i64 to
  g4 : gt 152 e 4 = .int .i64 m
  g5 : gt 152 e 5 = .int .i64 bm
  g6 : gt 152 e 6 = .pointer (some ⟨H.size, 0, none⟩)
  g7 : gt 152 e 7 = .pointer (some ⟨H.size + 1, 0, none⟩)
  g13 : gt 152 e 13 = .pointer (some ⟨H.size + 1 + 1, 0, none⟩)
  g14 : gt 152 e 14 = .pointer (some ⟨H.size + 1 + 1 + 1, 0, none⟩)
  fr : Fr H H'
  sz : H.size + 1 + 1 + 1 < H'.size
  b6 : H'.get H.size = .rw [.int .i64 C, .slice a l.length cap] 24 false []
  b7 : H'.get (H.size + 1) = .rw [.int .i64 w, .int .i64 ld] 26 false []
  b13 : H'.get (H.size + 1 + 1) = .rw [.int .i64 C, .slice a1 l.length cap1] 24 false []
  b14 : H'.get (H.size + 1 + 1 + 1) = .rw [.int .i64 C, .slice a2 l.length cap2] 34 false []
  s1 : Sl H' a1 l
  n1 : a1 = none → cap1 = 0
  s2 : Sl H' a2 l
section
variable {a a1 a2 : Option Addr} {cap cap1 cap2 : Nat} {l : List Str} {C w ld fr to m bm : Int} {e e' : VT} {H' H'' : AHeap}
theorem LaidM.next (I : LaidM H a cap l C w ld fr to m bm e H' a1 cap1 a2 cap2) (f : Fr H' H'') (h : Keep 152 [2, 3, 4, 5, 6, 7, 13, 14] e e') : LaidM H a cap l C w ld fr to m bm e' H'' a1 cap1 a2 cap2 where
  g2 := (h 2 (by decide)).trans I.g2
  g3 := (h 3 (by decide)).trans I.g3
  g4 := (h 4 (by decide)).trans I.g4
  g5 := (h 5 (by decide)).trans I.g5
  g6 := (h 6 (by decide)).trans I.g6
  g7 := (h 7 (by decide)).trans I.g7
  g13 := (h 13 (by decide)).trans I.g13
  g14 := (h 14 (by decide)).trans I.g14
  fr := I.fr.trans f
  sz := Nat.lt_of_lt_of_le I.sz f.size
  b6 := (f.same _ (by have := I.sz; omega)).trans I.b6
  b7 := (f.same _ (by have := I.sz; omega)).trans I.b7
  b13 := (f.same _ (by have := I.sz; omega)).trans I.b13
  b14 := (f.same _ (by have := I.sz; omega)).trans I.b14
  s1 := I.s1.fr f
  n1 := I.n1
  s2 := I.s2.fr f
theorem planB_hit {d : List (Option Nat)} {ops : List Oper} {env : Nat → Value} {H : AHeap} (hd : ops.map (·.dst) = d) (h1 : d ≠ [some 22, some 23, some 24, some 25, some 9, some 10, none, none]) (h2 : d ≠ [some 87, some 88, some 89, some 90, some 91, some 92, some 93, some 94, some 95, some 11]) : tabA.plan ops env H = planB d env := by
  show planA ops env H = _
  unfold planA
  rw [hd, if_neg h1, if_neg h2]
theorem plan4 {ops : List Oper} {env : Nat → Value} {H : AHeap} {x y : Value} (hd : ops.map (·.dst) = [some 28, some 29, some 30, some 31, some 32, some 33, some 34, some 35, some 15]) (hx : env 2 = x) (hy : env 4 = y) : tabA.plan ops env H = some [(4, .rw [x] 3 false []), (6, .rw [y] 3 false [])] := by
  rw [planB_hit hd (by decide) (by decide)]
  subst hx hy
  rfl
theorem plan14 {ops : List Oper} {env : Nat → Value} {H : AHeap} {x y : Value} (hd : ops.map (·.dst) = [some 73, some 74, some 75, some 76, some 77, some 78, some 79, some 80, some 15]) (hx : env 3 = x) (hy : env 5 = y) : tabA.plan ops env H = some [(4, .rw [x] 3 false []), (6, .rw [y] 3 false [])] := by
  rw [planB_hit hd (by decide) (by decide)]
  subst hx hy
  rfl
theorem plan22M {ops : List Oper} {env : Nat → Value} {H : AHeap} {x y z u : Value} (hd : ops.map (·.dst) = [some 116, some 117, some 118, some 119, some 120, some 121, some 122, some 123, some 124, some 125, some 15]) (hx : env 2 = x) (hy : env 3 = y) (hz : env 4 = z) (hu : env 5 = u) : tabA.plan ops env H = some [(5, .rw [x, y] 3 false []), (8, .rw [z, u] 3 false [])] := by
  rw [planB_hit hd (by decide) (by decide)]
  subst hx hy hz hu
  rfl
end
end Go.Am
/- The law StreetMinutes. -/
namespace Go.Am
open Go.Proofs
variable {T : Tab} {P : Program} {N L : Nat} {H : AHeap} {Q : Bool → Value → AHeap → Prop}
section
variable {a : Option Addr} {cap : Nat} {l : List Str} {C w ld fr to m bm : Int}
theorem hcc (x : Int) : decide (x = x) = true := by simp
set_option maxHeartbeats 4000000 in
theorem c4 (hs : Sl H a l) (hn : a = none → cap = 0) (hok : ∀ s ∈ l, s.Ok) :
    acall tabA (aexec tabA Try.prog (N + 8000)) 4 [.agg ⟨[.int .i64 C, .slice a l.length cap]⟩, .agg ⟨[.int .i64 w, .int .i64 ld]⟩, .int .i64 fr, .int .i64 to, .int .i64 m, .int .i64 bm] H = some (true, .bool true, H, H.size) := by
  refine call_quiet (k := 152) (rs := [.tmp 12]) rfl fn_4 rfl rfl rfl ?_ rfl
  simp (disch := (first | (simp only [ne_eq,Nat.reduceEqDiff,not_false_eq_true,Nat.reduceLT]; done) | omega | (simp only [yz] <;> omega) | fail)) only [↓yp,yq0,yq1,yq2,yq3,yq4,yl,ys0,ys1,Nat.reduceAdd,Nat.reduceMul,Nat.reduceSub,Nat.reduceBEq,Nat.reduceEqDiff,Nat.reduceLT,Nat.reduceLeDiff,reduceIte,Int.reduceAdd,Int.reduceSub,Int.reduceMul,Int.reduceLT,Int.reduceLE,Int.reduceEq,Int.reduceToNat,Int.reduceNeg,zed,zee,zfr,zhw,ysu,yrg,c17]
  refine ⟨fun hA => ?_, fun hA => ?_⟩
  · simp (disch := (first | (simp only [ne_eq,Nat.reduceEqDiff,not_false_eq_true,Nat.reduceLT]; done) | omega | (simp only [yz] <;> omega) | fail)) only [↓yp,yq0,yq1,yq2,yq3,yq4,yl,ys0,ys1,Nat.reduceAdd,Nat.reduceMul,Nat.reduceSub,Nat.reduceBEq,Nat.reduceEqDiff,Nat.reduceLT,Nat.reduceLeDiff,reduceIte,Int.reduceAdd,Int.reduceSub,Int.reduceMul,Int.reduceLT,Int.reduceLE,Int.reduceEq,Int.reduceToNat,Int.reduceNeg,zed,zee,zfr,zhw,ysu,yrg,awake_r]
  have hl : l.length ≤ 18 := by simp at hA; omega
  clear hA
  simp (disch := (first | (simp only [ne_eq,Nat.reduceEqDiff,not_false_eq_true,Nat.reduceLT]; done) | omega | (simp only [yz] <;> omega) | fail)) only [↓yp,yq0,yq1,yq2,yq3,yq4,yl,ys0,ys1,Nat.reduceAdd,Nat.reduceMul,Nat.reduceSub,Nat.reduceBEq,Nat.reduceEqDiff,Nat.reduceLT,Nat.reduceLeDiff,reduceIte,Int.reduceAdd,Int.reduceSub,Int.reduceMul,Int.reduceLT,Int.reduceLE,Int.reduceEq,Int.reduceToNat,Int.reduceNeg,zed,zee,zfr,zhw,ysu,yrg]
  refine W_cutK (fun e H' => ∃ a1 cap1 a2 cap2, LaidM H a cap l C w ld fr to m bm e H' a1 cap1 a2 cap2) ?_ ?_
  · by_cases hne : l = []
    · subst hne
      refine W_drawR [6, 7] [(4, 1), (4, 2), (5, 2)] rfl (by kernel_rfl) (by kernel_rfl) (by kernel_rfl) (by (first | omega | (simp only [yz] <;> omega))) ?_
      simp (disch := (first | (simp only [ne_eq,Nat.reduceEqDiff,not_false_eq_true,Nat.reduceLT]; done) | omega | (simp only [yz] <;> omega) | fail)) only [↓yp,yq0,yq1,yq2,yq3,yq4,yl,ys0,ys1,Nat.reduceAdd,Nat.reduceMul,Nat.reduceSub,Nat.reduceBEq,Nat.reduceEqDiff,Nat.reduceLT,Nat.reduceLeDiff,reduceIte,Int.reduceAdd,Int.reduceSub,Int.reduceMul,Int.reduceLT,Int.reduceLE,Int.reduceEq,Int.reduceToNat,Int.reduceNeg,zed,zee,zfr,zhw,ysu,yrg,c19n,c20n,intZ,cutK_normal]
      refine ⟨none, 0, none, 0, ?_, ?_, ?_, ?_, ?_, ?_, ?_, ?_, ?_, ?_, ?_, ?_, ?_, ?_, ?_, fun _ => rfl, ?_⟩
      iterate 8 simp (disch := (first | (simp only [ne_eq,Nat.reduceEqDiff,not_false_eq_true,Nat.reduceLT]; done) | omega | (simp only [yz] <;> omega) | fail)) only [yg,Nat.reduceAdd,Nat.reduceEqDiff,Nat.reduceLT]
      · (repeat (first | exact Fr.refl _ | assumption | refine Fr.allocd ?_ _ | refine Fr.kill ?_ (by first | assumption | omega) | refine Fr.put ?_ (by first | omega | (simp only [yz] <;> omega)) _))
      · (first | omega | (simp only [yz] <;> omega))
      iterate 4 simp (disch := (first | (simp only [ne_eq,Nat.reduceEqDiff,not_false_eq_true,Nat.reduceLT]; done) | omega | (simp only [yz] <;> omega) | fail)) only [↓yp,yq0,yq1,yq2,yq3,yq4,yl,ys0,ys1,Nat.reduceAdd,Nat.reduceMul,Nat.reduceSub,Nat.reduceBEq,Nat.reduceEqDiff,Nat.reduceLT,Nat.reduceLeDiff,reduceIte,Int.reduceAdd,Int.reduceSub,Int.reduceMul,Int.reduceLT,Int.reduceLE,Int.reduceEq,Int.reduceToNat,Int.reduceNeg,zed,zee,zfr,zhw,ysu,yrg]
      · exact ⟨fun h => absurd rfl h, fun _ _ _ _ h => absurd rfl h⟩
      · exact ⟨fun h => absurd rfl h, fun _ _ _ _ h => absurd rfl h⟩
    · refine W_drawR [1, 3, 6, 7] [(4, 3), (4, 4), (5, 4)] rfl (by kernel_rfl) (by kernel_rfl) (by kernel_rfl) (by (first | omega | (simp only [yz] <;> omega))) ?_
      simp (disch := (first | (simp only [ne_eq,Nat.reduceEqDiff,not_false_eq_true,Nat.reduceLT]; done) | omega | (simp only [yz] <;> omega) | fail)) only [↓yp,yq0,yq1,yq2,yq3,yq4,yl,ys0,ys1,Nat.reduceAdd,Nat.reduceMul,Nat.reduceSub,Nat.reduceBEq,Nat.reduceEqDiff,Nat.reduceLT,Nat.reduceLeDiff,reduceIte,Int.reduceAdd,Int.reduceSub,Int.reduceMul,Int.reduceLT,Int.reduceLE,Int.reduceEq,Int.reduceToNat,Int.reduceNeg,zed,zee,zfr,zhw,ysu,yrg,intZ]
      refine c19f (hs.fr (by (repeat (first | exact Fr.refl _ | assumption | refine Fr.allocd ?_ _ | refine Fr.kill ?_ (by first | assumption | omega) | refine Fr.put ?_ (by first | omega | (simp only [yz] <;> omega)) _)))) hl hne (by (first | omega | (simp only [yz] <;> omega))) (by omega) ?_
      intro a1 cap1 H1 nw1
      have f1 := nw1.fr.size
      have s1 := nw1.fr.same
      simp only [zde] at f1
      simp (disch := (first | (simp only [ne_eq,Nat.reduceEqDiff,not_false_eq_true,Nat.reduceLT]; done) | omega | (simp only [yz] <;> omega) | fail)) only [↓yp,yq0,yq1,yq2,yq3,yq4,yl,ys0,ys1,Nat.reduceAdd,Nat.reduceMul,Nat.reduceSub,Nat.reduceBEq,Nat.reduceEqDiff,Nat.reduceLT,Nat.reduceLeDiff,reduceIte,Int.reduceAdd,Int.reduceSub,Int.reduceMul,Int.reduceLT,Int.reduceLE,Int.reduceEq,Int.reduceToNat,Int.reduceNeg,zed,zee,zfr,zhw,ysu,yrg,intZ,s1]
      refine c20f ((hs.fr (by (repeat (first | exact Fr.refl _ | assumption | refine Fr.allocd ?_ _ | refine Fr.kill ?_ (by first | assumption | omega) | refine Fr.put ?_ (by first | omega | (simp only [yz] <;> omega)) _)))).fr nw1.fr) hl hne (by (first | omega | (simp only [yz] <;> omega))) (by omega) ?_
      intro a2 cap2 H2 fr2 sl2
      have f2 := fr2.size
      have s2 := fr2.same
      simp (disch := (first | (simp only [ne_eq,Nat.reduceEqDiff,not_false_eq_true,Nat.reduceLT]; done) | omega | (simp only [yz] <;> omega) | fail)) only [↓yp,yq0,yq1,yq2,yq3,yq4,yl,ys0,ys1,Nat.reduceAdd,Nat.reduceMul,Nat.reduceSub,Nat.reduceBEq,Nat.reduceEqDiff,Nat.reduceLT,Nat.reduceLeDiff,reduceIte,Int.reduceAdd,Int.reduceSub,Int.reduceMul,Int.reduceLT,Int.reduceLE,Int.reduceEq,Int.reduceToNat,Int.reduceNeg,zed,zee,zfr,zhw,ysu,yrg,intZ,s1,s2,cutK_normal]
      refine ⟨a1, cap1, a2, cap2, ?_, ?_, ?_, ?_, ?_, ?_, ?_, ?_, ?_, ?_, ?_, ?_, ?_, ?_, ?_, nw1.nl, ?_⟩
      iterate 8 simp (disch := (first | (simp only [ne_eq,Nat.reduceEqDiff,not_false_eq_true,Nat.reduceLT]; done) | omega | (simp only [yz] <;> omega) | fail)) only [yg,Nat.reduceAdd,Nat.reduceEqDiff,Nat.reduceLT]
      · refine Fr.put (Fr.put ?_ (by (first | omega | (simp only [yz] <;> omega))) _) (by (first | omega | (simp only [yz] <;> omega))) _
        exact ((by (repeat (first | exact Fr.refl _ | assumption | refine Fr.allocd ?_ _ | refine Fr.kill ?_ (by first | assumption | omega) | refine Fr.put ?_ (by first | omega | (simp only [yz] <;> omega)) _)) : Fr H _).trans nw1.fr).trans fr2
      · (first | omega | (simp only [yz] <;> omega))
      iterate 4 simp (disch := (first | (simp only [ne_eq,Nat.reduceEqDiff,not_false_eq_true,Nat.reduceLT]; done) | omega | (simp only [yz] <;> omega) | fail)) only [yg,Nat.reduceAdd,Nat.reduceEqDiff,Nat.reduceLT,s1,s2]
      · refine Sl.put (Sl.put (nw1.sl.fr fr2) (c := [.int .i64 0, .slice none 0 0]) ?_ (by simp)) (c := [.int .i64 0, .slice none 0 0]) ?_ (by simp) <;> simp (disch := (first | (simp only [ne_eq,Nat.reduceEqDiff,not_false_eq_true,Nat.reduceLT]; done) | omega | (simp only [yz] <;> omega) | fail)) only [yg,Nat.reduceAdd,Nat.reduceEqDiff,Nat.reduceLT,s1,s2]
      · refine Sl.put (Sl.put sl2 (c := [.int .i64 0, .slice none 0 0]) ?_ (by simp)) (c := [.int .i64 0, .slice none 0 0]) ?_ (by simp) <;> simp (disch := (first | (simp only [ne_eq,Nat.reduceEqDiff,not_false_eq_true,Nat.reduceLT]; done) | omega | (simp only [yz] <;> omega) | fail)) only [yg,Nat.reduceAdd,Nat.reduceEqDiff,Nat.reduceLT,s1,s2]
  rintro e H' ⟨a1, cap1, a2, cap2, I⟩
  have sz := I.sz
  -- what is asked
  refine W_seqI (fun e' H'' => LaidM H a cap l C w ld fr to m bm e' H'' a1 cap1 a2 cap2 ∧ gt 152 e' 15 = .int .i64 (asked C l w ld [fr] [] [m])) ?_ ?_
  · have g2 := I.g2
    have g4 := I.g4
    have g7 := I.g7
    have g14 := I.g14
    have b7 := I.b7
    have b14 := I.b14
    refine W_drawR (pl := [(4, .rw [.int .i64 fr] 3 false []), (6, .rw [.int .i64 m] 3 false [])]) [] [] (plan4 rfl g2 g4) (by kernel_rfl) (by kernel_rfl) (by kernel_rfl) (by (first | omega | (simp only [yz] <;> omega))) ?_
    have h26 := fun (H'' : AHeap) (f : Fr H' H'') (N b₁ b₂ : Nat) (h₁ : cellsOf (H''.get b₁) = some [.int .i64 fr]) (h₂ : cellsOf (H''.get b₂) = some [.int .i64 m]) => c26e (N := N) (C := C) (w := w) (ld := ld) (cap := cap2) (k₁ := b₁) (k₂ := b₂) (I.s2.fr f) hl h₁ h₂
    simp (disch := (first | (simp only [ne_eq,Nat.reduceEqDiff,not_false_eq_true,Nat.reduceLT]; done) | omega | (simp only [yz] <;> omega) | fail)) only [↓yp,yq0,yq1,yq2,yq3,yq4,yl,ys0,ys1,Nat.reduceAdd,Nat.reduceMul,Nat.reduceSub,Nat.reduceBEq,Nat.reduceEqDiff,Nat.reduceLT,Nat.reduceLeDiff,reduceIte,Int.reduceAdd,Int.reduceSub,Int.reduceMul,Int.reduceLT,Int.reduceLE,Int.reduceEq,Int.reduceToNat,Int.reduceNeg,zed,zee,zfr,zhw,ysu,yrg,g2,g4,g7,g14,b7,b14,c27,newK_row st_brS_52_1,maskE_nilSlice]
    rw [h26 _ (by (repeat (first | exact Fr.refl _ | assumption | refine Fr.allocd ?_ _ | refine Fr.kill ?_ (by first | assumption | omega) | refine Fr.put ?_ (by first | omega | (simp only [yz] <;> omega)) _))) _ _ _ (by simp (disch := (first | (simp only [ne_eq,Nat.reduceEqDiff,not_false_eq_true,Nat.reduceLT]; done) | omega | (simp only [yz] <;> omega) | fail)) only [yg,Nat.reduceAdd,Nat.reduceEqDiff,Nat.reduceLT]) (by simp (disch := (first | (simp only [ne_eq,Nat.reduceEqDiff,not_false_eq_true,Nat.reduceLT]; done) | omega | (simp only [yz] <;> omega) | fail)) only [yg,Nat.reduceAdd,Nat.reduceEqDiff,Nat.reduceLT])]
    simp (disch := (first | (simp only [ne_eq,Nat.reduceEqDiff,not_false_eq_true,Nat.reduceLT]; done) | omega | (simp only [yz] <;> omega) | fail)) only [↓yp,yq0,yq1,yq2,yq3,yq4,yl,ys0,ys1,Nat.reduceAdd,Nat.reduceMul,Nat.reduceSub,Nat.reduceBEq,Nat.reduceEqDiff,Nat.reduceLT,Nat.reduceLeDiff,reduceIte,Int.reduceAdd,Int.reduceSub,Int.reduceMul,Int.reduceLT,Int.reduceLE,Int.reduceEq,Int.reduceToNat,Int.reduceNeg,zed,zee,zfr,zhw,ysu,yrg,g2,g4,g7,g14,b7,b14,c27,newK_row st_brS_52_1,maskE_nilSlice]
    rw [h26 _ (by (repeat (first | exact Fr.refl _ | assumption | refine Fr.allocd ?_ _ | refine Fr.kill ?_ (by first | assumption | omega) | refine Fr.put ?_ (by first | omega | (simp only [yz] <;> omega)) _))) _ _ _ (by simp (disch := (first | (simp only [ne_eq,Nat.reduceEqDiff,not_false_eq_true,Nat.reduceLT]; done) | omega | (simp only [yz] <;> omega) | fail)) only [yg,Nat.reduceAdd,Nat.reduceEqDiff,Nat.reduceLT]) (by simp (disch := (first | (simp only [ne_eq,Nat.reduceEqDiff,not_false_eq_true,Nat.reduceLT]; done) | omega | (simp only [yz] <;> omega) | fail)) only [yg,Nat.reduceAdd,Nat.reduceEqDiff,Nat.reduceLT])]
    simp (disch := (first | (simp only [ne_eq,Nat.reduceEqDiff,not_false_eq_true,Nat.reduceLT]; done) | omega | (simp only [yz] <;> omega) | fail)) only [↓yp,yq0,yq1,yq2,yq3,yq4,yl,ys0,ys1,Nat.reduceAdd,Nat.reduceMul,Nat.reduceSub,Nat.reduceBEq,Nat.reduceEqDiff,Nat.reduceLT,Nat.reduceLeDiff,reduceIte,Int.reduceAdd,Int.reduceSub,Int.reduceMul,Int.reduceLT,Int.reduceLE,Int.reduceEq,Int.reduceToNat,Int.reduceNeg,zed,zee,zfr,zhw,ysu,yrg]
    refine ⟨I.next (by (repeat (first | exact Fr.refl _ | assumption | refine Fr.allocd ?_ _ | refine Fr.kill ?_ (by first | assumption | omega) | refine Fr.put ?_ (by first | omega | (simp only [yz] <;> omega)) _))) (by (with_reducible (repeat (first | refine Keep.put ?_ (by decide) | refine Keep.none ?_ | assumption | exact Keep.refl _ _ _)))), ?_⟩
    simp (disch := (first | (simp only [ne_eq,Nat.reduceEqDiff,not_false_eq_true,Nat.reduceLT]; done) | omega | (simp only [yz] <;> omega) | fail)) only [yg,Nat.reduceAdd,Nat.reduceEqDiff,Nat.reduceLT]
  clear sz I
  rintro e H' ⟨I, g15⟩
  have sz := I.sz
  obtain ⟨q, hq⟩ : ∃ q, asked C l w ld [fr] [] [m] = q := ⟨_, rfl⟩
  rw [hq] at g15
  obtain ⟨t, ht⟩ : ∃ t, (earT C l w ld fr m).take C.toNat = t := ⟨_, rfl⟩
  refine W_seqI (fun e' H'' => LaidM H a cap l C w ld fr to m bm e' H'' a1 cap1 a2 cap2 ∧ gt 152 e' 15 = .int .i64 q ∧ gt 152 e' 16 = .slice none 0 0) ?_ ?_
  · simp (disch := (first | (simp only [ne_eq,Nat.reduceEqDiff,not_false_eq_true,Nat.reduceLT]; done) | omega | (simp only [yz] <;> omega) | fail)) only [↓yp,yq0,yq1,yq2,yq3,yq4,yl,ys0,ys1,Nat.reduceAdd,Nat.reduceMul,Nat.reduceSub,Nat.reduceBEq,Nat.reduceEqDiff,Nat.reduceLT,Nat.reduceLeDiff,reduceIte,Int.reduceAdd,Int.reduceSub,Int.reduceMul,Int.reduceLT,Int.reduceLE,Int.reduceEq,Int.reduceToNat,Int.reduceNeg,zed,zee,zfr,zhw,ysu,yrg]
    refine ⟨I.next (Fr.refl _) (by (with_reducible (repeat (first | refine Keep.put ?_ (by decide) | refine Keep.none ?_ | assumption | exact Keep.refl _ _ _)))), ?_, ?_⟩
    · simp (disch := (first | (simp only [ne_eq,Nat.reduceEqDiff,not_false_eq_true,Nat.reduceLT]; done) | omega | (simp only [yz] <;> omega) | fail)) only [yg,Nat.reduceAdd,Nat.reduceEqDiff,Nat.reduceLT,g15]
    · simp (disch := (first | (simp only [ne_eq,Nat.reduceEqDiff,not_false_eq_true,Nat.reduceLT]; done) | omega | (simp only [yz] <;> omega) | fail)) only [yg,Nat.reduceAdd,Nat.reduceEqDiff,Nat.reduceLT]
  clear sz I g15
  rintro e H' ⟨I, g15, g16⟩
  have sz := I.sz
  have tlen : q = 0 → t.length = C.toNat ∧ t.length ≤ 8 := fun h0 => by
    rw [h0] at hq
    obtain ⟨hc, hw, hd, hcs, -, hms⟩ := asked_ok hq
    have g := good_of hc hd
    have hC := g.hC
    have hfr := hcs fr (by simp)
    rw [← ht, List.length_take, earT_len (w := w) g (by omega) (hms m (by simp))]
    omega
  refine W_seqI (fun e' H'' => LaidM H a cap l C w ld fr to m bm e' H'' a1 cap1 a2 cap2 ∧ gt 152 e' 15 = .int .i64 q ∧ Wn H'' (gt 152 e' 16) q t) ?_ ?_
  · by_cases h0 : q = 0
    · have hd0 : decide (q = 0) = true := by simpa using h0
      have g2 := I.g2
      have g4 := I.g4
      have g7 := I.g7
      have g14 := I.g14
      have b7 := I.b7
      have b14 := I.b14
      rw [h0] at hq
      obtain ⟨hc, hw, hd, hcs, -, hms⟩ := asked_ok hq
      have g := good_of hc hd
      have hC := g.hC
      have hfr := hcs fr (by simp)
      simp (disch := (first | (simp only [ne_eq,Nat.reduceEqDiff,not_false_eq_true,Nat.reduceLT]; done) | omega | (simp only [yz] <;> omega) | fail)) only [↓yp,yq0,yq1,yq2,yq3,yq4,yl,ys0,ys1,Nat.reduceAdd,Nat.reduceMul,Nat.reduceSub,Nat.reduceBEq,Nat.reduceEqDiff,Nat.reduceLT,Nat.reduceLeDiff,reduceIte,Int.reduceAdd,Int.reduceSub,Int.reduceMul,Int.reduceLT,Int.reduceLE,Int.reduceEq,Int.reduceToNat,Int.reduceNeg,zed,zee,zfr,zhw,ysu,yrg,g15,hd0]
      refine W_draw [5] rfl (by kernel_rfl) (by kernel_rfl) (by (first | omega | (simp only [yz] <;> omega))) ?_
      simp (disch := (first | (simp only [ne_eq,Nat.reduceEqDiff,not_false_eq_true,Nat.reduceLT]; done) | omega | (simp only [yz] <;> omega) | fail)) only [↓yp,yq0,yq1,yq2,yq3,yq4,yl,ys0,ys1,Nat.reduceAdd,Nat.reduceMul,Nat.reduceSub,Nat.reduceBEq,Nat.reduceEqDiff,Nat.reduceLT,Nat.reduceLeDiff,reduceIte,Int.reduceAdd,Int.reduceSub,Int.reduceMul,Int.reduceLT,Int.reduceLE,Int.reduceEq,Int.reduceToNat,Int.reduceNeg,zed,zee,zfr,zhw,ysu,yrg,g2,g4,g7,g14,b7,b14,c27]
      refine c31 I.s2 hl g ⟨by omega, by omega⟩ (hms m (by simp)) (by (first | omega | (simp only [yz] <;> omega))) (by omega) ?_
      intro k cap' H3 fr3 hk1 hk2 hx
      have s3 := fr3.same
      have f3 := fr3.size
      obtain ⟨al, hx⟩ := hx
      simp (disch := (first | (simp only [ne_eq,Nat.reduceEqDiff,not_false_eq_true,Nat.reduceLT]; done) | omega | (simp only [yz] <;> omega) | fail)) only [↓yp,yq0,yq1,yq2,yq3,yq4,yl,ys0,ys1,Nat.reduceAdd,Nat.reduceMul,Nat.reduceSub,Nat.reduceBEq,Nat.reduceEqDiff,Nat.reduceLT,Nat.reduceLeDiff,reduceIte,Int.reduceAdd,Int.reduceSub,Int.reduceMul,Int.reduceLT,Int.reduceLE,Int.reduceEq,Int.reduceToNat,Int.reduceNeg,zed,zee,zfr,zhw,ysu,yrg,g2,g4,g7,g14,b7,b14,c27,s3]
      refine ⟨I.next fr3 (by (with_reducible (repeat (first | refine Keep.put ?_ (by decide) | refine Keep.none ?_ | assumption | exact Keep.refl _ _ _)))), ?_, .inl ⟨h0, k, cap', ?_, hk2, true, al, ht ▸ hx⟩⟩
      · simp (disch := (first | (simp only [ne_eq,Nat.reduceEqDiff,not_false_eq_true,Nat.reduceLT]; done) | omega | (simp only [yz] <;> omega) | fail)) only [yg,Nat.reduceAdd,Nat.reduceEqDiff,Nat.reduceLT,g15]
      · simp (disch := (first | (simp only [ne_eq,Nat.reduceEqDiff,not_false_eq_true,Nat.reduceLT]; done) | omega | (simp only [yz] <;> omega) | fail)) only [yg,Nat.reduceAdd,Nat.reduceEqDiff,Nat.reduceLT,(tlen h0).1]
    · have hd0 : decide (q = 0) = false := by simpa using h0
      simp (disch := (first | (simp only [ne_eq,Nat.reduceEqDiff,not_false_eq_true,Nat.reduceLT]; done) | omega | (simp only [yz] <;> omega) | fail)) only [↓yp,yq0,yq1,yq2,yq3,yq4,yl,ys0,ys1,Nat.reduceAdd,Nat.reduceMul,Nat.reduceSub,Nat.reduceBEq,Nat.reduceEqDiff,Nat.reduceLT,Nat.reduceLeDiff,reduceIte,Int.reduceAdd,Int.reduceSub,Int.reduceMul,Int.reduceLT,Int.reduceLE,Int.reduceEq,Int.reduceToNat,Int.reduceNeg,zed,zee,zfr,zhw,ysu,yrg,g15,hd0]
      refine ⟨I.next (Fr.refl _) (by (with_reducible (repeat (first | refine Keep.put ?_ (by decide) | refine Keep.none ?_ | assumption | exact Keep.refl _ _ _)))), ?_, .inr ⟨h0, ?_⟩⟩
      · simp (disch := (first | (simp only [ne_eq,Nat.reduceEqDiff,not_false_eq_true,Nat.reduceLT]; done) | omega | (simp only [yz] <;> omega) | fail)) only [yg,Nat.reduceAdd,Nat.reduceEqDiff,Nat.reduceLT,g15]
      · simp (disch := (first | (simp only [ne_eq,Nat.reduceEqDiff,not_false_eq_true,Nat.reduceLT]; done) | omega | (simp only [yz] <;> omega) | fail)) only [yg,Nat.reduceAdd,Nat.reduceEqDiff,Nat.reduceLT,g16]
  clear sz I g15 g16
  rintro e H' ⟨I, g15, w16⟩
  have sz := I.sz
  refine W_seqI (fun e' H'' => LaidM H a cap l C w ld fr to m bm e' H'' a1 cap1 a2 cap2 ∧ gt 152 e' 15 = .int .i64 q ∧ Wn H'' (gt 152 e' 16) q t ∧ gt 152 e' 18 = .int .i64 q ∧ Wn H'' (gt 152 e' 17) q t) ?_ ?_
  · have g2 := I.g2
    have g4 := I.g4
    have g7 := I.g7
    have g13 := I.g13
    have b7 := I.b7
    have b13 := I.b13
    simp (disch := (first | (simp only [ne_eq,Nat.reduceEqDiff,not_false_eq_true,Nat.reduceLT]; done) | omega | (simp only [yz] <;> omega) | fail)) only [↓yp,yq0,yq1,yq2,yq3,yq4,yl,ys0,ys1,Nat.reduceAdd,Nat.reduceMul,Nat.reduceSub,Nat.reduceBEq,Nat.reduceEqDiff,Nat.reduceLT,Nat.reduceLeDiff,reduceIte,Int.reduceAdd,Int.reduceSub,Int.reduceMul,Int.reduceLT,Int.reduceLE,Int.reduceEq,Int.reduceToNat,Int.reduceNeg,zed,zee,zfr,zhw,ysu,yrg,g2,g4,g7,g13,b7,b13]
    by_cases h0 : q = 0
    · have h0' := h0
      subst h0'
      refine c32k I.s1 hl hq (by (first | omega | (simp only [yz] <;> omega))) (by omega) ?_
      intro k cap' H3 fr3 hk1 hk2 hx
      simp (disch := (first | (simp only [ne_eq,Nat.reduceEqDiff,not_false_eq_true,Nat.reduceLT]; done) | omega | (simp only [yz] <;> omega) | fail)) only [↓yp,yq0,yq1,yq2,yq3,yq4,yl,ys0,ys1,Nat.reduceAdd,Nat.reduceMul,Nat.reduceSub,Nat.reduceBEq,Nat.reduceEqDiff,Nat.reduceLT,Nat.reduceLeDiff,reduceIte,Int.reduceAdd,Int.reduceSub,Int.reduceMul,Int.reduceLT,Int.reduceLE,Int.reduceEq,Int.reduceToNat,Int.reduceNeg,zed,zee,zfr,zhw,ysu,yrg]
      refine ⟨I.next fr3 (by (with_reducible (repeat (first | refine Keep.put ?_ (by decide) | refine Keep.none ?_ | assumption | exact Keep.refl _ _ _)))), ?_, ?_, ?_, .inl ⟨rfl, k, cap', ?_, hk2, true, [], ht ▸ hx⟩⟩
      · simp (disch := (first | (simp only [ne_eq,Nat.reduceEqDiff,not_false_eq_true,Nat.reduceLT]; done) | omega | (simp only [yz] <;> omega) | fail)) only [yg,Nat.reduceAdd,Nat.reduceEqDiff,Nat.reduceLT,g15]
      · simp (disch := (first | (simp only [ne_eq,Nat.reduceEqDiff,not_false_eq_true,Nat.reduceLT]; done) | omega | (simp only [yz] <;> omega) | fail)) only [yg,Nat.reduceAdd,Nat.reduceEqDiff,Nat.reduceLT]
        exact w16.fr fr3
      · simp (disch := (first | (simp only [ne_eq,Nat.reduceEqDiff,not_false_eq_true,Nat.reduceLT]; done) | omega | (simp only [yz] <;> omega) | fail)) only [yg,Nat.reduceAdd,Nat.reduceEqDiff,Nat.reduceLT]
      · simp (disch := (first | (simp only [ne_eq,Nat.reduceEqDiff,not_false_eq_true,Nat.reduceLT]; done) | omega | (simp only [yz] <;> omega) | fail)) only [yg,Nat.reduceAdd,Nat.reduceEqDiff,Nat.reduceLT,(tlen rfl).1]
    · rw [c32e I.s1 hl (by rw [hq]; exact h0), hq]
      simp (disch := (first | (simp only [ne_eq,Nat.reduceEqDiff,not_false_eq_true,Nat.reduceLT]; done) | omega | (simp only [yz] <;> omega) | fail)) only [↓yp,yq0,yq1,yq2,yq3,yq4,yl,ys0,ys1,Nat.reduceAdd,Nat.reduceMul,Nat.reduceSub,Nat.reduceBEq,Nat.reduceEqDiff,Nat.reduceLT,Nat.reduceLeDiff,reduceIte,Int.reduceAdd,Int.reduceSub,Int.reduceMul,Int.reduceLT,Int.reduceLE,Int.reduceEq,Int.reduceToNat,Int.reduceNeg,zed,zee,zfr,zhw,ysu,yrg]
      refine ⟨I.next (Fr.refl _) (by (with_reducible (repeat (first | refine Keep.put ?_ (by decide) | refine Keep.none ?_ | assumption | exact Keep.refl _ _ _)))), ?_, ?_, ?_, .inr ⟨h0, ?_⟩⟩
      · simp (disch := (first | (simp only [ne_eq,Nat.reduceEqDiff,not_false_eq_true,Nat.reduceLT]; done) | omega | (simp only [yz] <;> omega) | fail)) only [yg,Nat.reduceAdd,Nat.reduceEqDiff,Nat.reduceLT,g15]
      · simp (disch := (first | (simp only [ne_eq,Nat.reduceEqDiff,not_false_eq_true,Nat.reduceLT]; done) | omega | (simp only [yz] <;> omega) | fail)) only [yg,Nat.reduceAdd,Nat.reduceEqDiff,Nat.reduceLT]
        exact w16
      · simp (disch := (first | (simp only [ne_eq,Nat.reduceEqDiff,not_false_eq_true,Nat.reduceLT]; done) | omega | (simp only [yz] <;> omega) | fail)) only [yg,Nat.reduceAdd,Nat.reduceEqDiff,Nat.reduceLT]
      · simp (disch := (first | (simp only [ne_eq,Nat.reduceEqDiff,not_false_eq_true,Nat.reduceLT]; done) | omega | (simp only [yz] <;> omega) | fail)) only [yg,Nat.reduceAdd,Nat.reduceEqDiff,Nat.reduceLT]
  clear sz I g15 w16
  rintro e H' ⟨I, g15, w16, g18, w17⟩
  have sz := I.sz
  have tl8 : t.length ≤ 8 ∨ q ≠ 0 := by
    by_cases h0 : q = 0
    · exact .inl (tlen h0).2
    · exact .inr h0
  refine W_seqI (fun e' H'' => LaidM H a cap l C w ld fr to m bm e' H'' a1 cap1 a2 cap2) ?_ ?_
  · have h33 := fun (N : Nat) => w17.same (N := N) w16 tl8
    simp (disch := (first | (simp only [ne_eq,Nat.reduceEqDiff,not_false_eq_true,Nat.reduceLT]; done) | omega | (simp only [yz] <;> omega) | fail)) only [↓yp,yq0,yq1,yq2,yq3,yq4,yl,ys0,ys1,Nat.reduceAdd,Nat.reduceMul,Nat.reduceSub,Nat.reduceBEq,Nat.reduceEqDiff,Nat.reduceLT,Nat.reduceLeDiff,reduceIte,Int.reduceAdd,Int.reduceSub,Int.reduceMul,Int.reduceLT,Int.reduceLE,Int.reduceEq,Int.reduceToNat,Int.reduceNeg,zed,zee,zfr,zhw,ysu,yrg,g15,g18,hcc,h33]
    exact I.next (Fr.refl _) (by (with_reducible (repeat (first | refine Keep.put ?_ (by decide) | refine Keep.none ?_ | assumption | exact Keep.refl _ _ _))))
  clear sz I g15 w16 g18 w17 tl8 tlen ht t hq q
  rintro e H' I
  have sz := I.sz
  -- late enough, and early
  refine W_seqI (fun e' H'' => LaidM H a cap l C w ld fr to m bm e' H'' a1 cap1 a2 cap2) ?_ ?_
  · have g5 := I.g5
    have g6 := I.g6
    have g13 := I.g13
    have b6 := I.b6
    have b13 := I.b13
    have h30 := fun (N : Nat) => c30 (N := N) (C := C) (cap := cap1) (cap' := cap) I.s1 (hs.fr I.fr) hl hok
    cases hX : decide (30 < bm)
    · simp (disch := (first | (simp only [ne_eq,Nat.reduceEqDiff,not_false_eq_true,Nat.reduceLT]; done) | omega | (simp only [yz] <;> omega) | fail)) only [↓yp,yq0,yq1,yq2,yq3,yq4,yl,ys0,ys1,Nat.reduceAdd,Nat.reduceMul,Nat.reduceSub,Nat.reduceBEq,Nat.reduceEqDiff,Nat.reduceLT,Nat.reduceLeDiff,reduceIte,Int.reduceAdd,Int.reduceSub,Int.reduceMul,Int.reduceLT,Int.reduceLE,Int.reduceEq,Int.reduceToNat,Int.reduceNeg,zed,zee,zfr,zhw,ysu,yrg,g5,hX]
      exact I.next (Fr.refl _) (by (with_reducible (repeat (first | refine Keep.put ?_ (by decide) | refine Keep.none ?_ | assumption | exact Keep.refl _ _ _))))
    cases hY : decide (bm ≤ 240)
    · simp (disch := (first | (simp only [ne_eq,Nat.reduceEqDiff,not_false_eq_true,Nat.reduceLT]; done) | omega | (simp only [yz] <;> omega) | fail)) only [↓yp,yq0,yq1,yq2,yq3,yq4,yl,ys0,ys1,Nat.reduceAdd,Nat.reduceMul,Nat.reduceSub,Nat.reduceBEq,Nat.reduceEqDiff,Nat.reduceLT,Nat.reduceLeDiff,reduceIte,Int.reduceAdd,Int.reduceSub,Int.reduceMul,Int.reduceLT,Int.reduceLE,Int.reduceEq,Int.reduceToNat,Int.reduceNeg,zed,zee,zfr,zhw,ysu,yrg,g5,hX,hY]
      exact I.next (Fr.refl _) (by (with_reducible (repeat (first | refine Keep.put ?_ (by decide) | refine Keep.none ?_ | assumption | exact Keep.refl _ _ _))))
    · simp (disch := (first | (simp only [ne_eq,Nat.reduceEqDiff,not_false_eq_true,Nat.reduceLT]; done) | omega | (simp only [yz] <;> omega) | fail)) only [↓yp,yq0,yq1,yq2,yq3,yq4,yl,ys0,ys1,Nat.reduceAdd,Nat.reduceMul,Nat.reduceSub,Nat.reduceBEq,Nat.reduceEqDiff,Nat.reduceLT,Nat.reduceLeDiff,reduceIte,Int.reduceAdd,Int.reduceSub,Int.reduceMul,Int.reduceLT,Int.reduceLE,Int.reduceEq,Int.reduceToNat,Int.reduceNeg,zed,zee,zfr,zhw,ysu,yrg,g5,g6,g13,b6,b13,hX,hY,h30,awake_r]
  clear sz I
  rintro e H' I
  have sz := I.sz
  refine W_seqI (fun e' H'' => LaidM H a cap l C w ld fr to m bm e' H'' a1 cap1 a2 cap2 ∧ gt 152 e' 16 = .slice none 0 0) ?_ ?_
  · simp (disch := (first | (simp only [ne_eq,Nat.reduceEqDiff,not_false_eq_true,Nat.reduceLT]; done) | omega | (simp only [yz] <;> omega) | fail)) only [↓yp,yq0,yq1,yq2,yq3,yq4,yl,ys0,ys1,Nat.reduceAdd,Nat.reduceMul,Nat.reduceSub,Nat.reduceBEq,Nat.reduceEqDiff,Nat.reduceLT,Nat.reduceLeDiff,reduceIte,Int.reduceAdd,Int.reduceSub,Int.reduceMul,Int.reduceLT,Int.reduceLE,Int.reduceEq,Int.reduceToNat,Int.reduceNeg,zed,zee,zfr,zhw,ysu,yrg]
    refine ⟨I.next (Fr.refl _) (by (with_reducible (repeat (first | refine Keep.put ?_ (by decide) | refine Keep.none ?_ | assumption | exact Keep.refl _ _ _)))), ?_⟩
    simp (disch := (first | (simp only [ne_eq,Nat.reduceEqDiff,not_false_eq_true,Nat.reduceLT]; done) | omega | (simp only [yz] <;> omega) | fail)) only [yg,Nat.reduceAdd,Nat.reduceEqDiff,Nat.reduceLT]
  clear sz I
  rintro e H' ⟨I, g16⟩
  have sz := I.sz
  obtain ⟨q, hq⟩ : ∃ q, asked C l w ld [to] [] [bm] = q := ⟨_, rfl⟩
  obtain ⟨t, ht⟩ : ∃ t, (latT C l w ld to bm).take C.toNat = t := ⟨_, rfl⟩
  have tlen : q = 0 → t.length = C.toNat ∧ t.length ≤ 8 := fun h0 => by
    rw [h0] at hq
    obtain ⟨hc, hw, hd, hcs, -, hms⟩ := asked_ok hq
    have g := good_of hc hd
    have hC := g.hC
    have hto := hcs to (by simp)
    rw [← ht, List.length_take, (latT_ok (w := w) g (by omega) (hms bm (by simp))).1]
    omega
  refine W_seqI (fun e' H'' => LaidM H a cap l C w ld fr to m bm e' H'' a1 cap1 a2 cap2 ∧ gt 152 e' 15 = .int .i64 q ∧ Wn H'' (gt 152 e' 16) q t) ?_ ?_
  · refine W_seqI (fun e' H'' => LaidM H a cap l C w ld fr to m bm e' H'' a1 cap1 a2 cap2 ∧ gt 152 e' 15 = .int .i64 q ∧ gt 152 e' 16 = .slice none 0 0) ?_ ?_
    · have g3 := I.g3
      have g5 := I.g5
      have g7 := I.g7
      have g14 := I.g14
      have b7 := I.b7
      have b14 := I.b14
      refine W_drawR (pl := [(4, .rw [.int .i64 to] 3 false []), (6, .rw [.int .i64 bm] 3 false [])]) [] [] (plan14 rfl g3 g5) (by kernel_rfl) (by kernel_rfl) (by kernel_rfl) (by (first | omega | (simp only [yz] <;> omega))) ?_
      have h26 := fun (H'' : AHeap) (f : Fr H' H'') (N b₁ b₂ : Nat) (h₁ : cellsOf (H''.get b₁) = some [.int .i64 to]) (h₂ : cellsOf (H''.get b₂) = some [.int .i64 bm]) => c26e (N := N) (C := C) (w := w) (ld := ld) (cap := cap2) (k₁ := b₁) (k₂ := b₂) (I.s2.fr f) hl h₁ h₂
      simp (disch := (first | (simp only [ne_eq,Nat.reduceEqDiff,not_false_eq_true,Nat.reduceLT]; done) | omega | (simp only [yz] <;> omega) | fail)) only [↓yp,yq0,yq1,yq2,yq3,yq4,yl,ys0,ys1,Nat.reduceAdd,Nat.reduceMul,Nat.reduceSub,Nat.reduceBEq,Nat.reduceEqDiff,Nat.reduceLT,Nat.reduceLeDiff,reduceIte,Int.reduceAdd,Int.reduceSub,Int.reduceMul,Int.reduceLT,Int.reduceLE,Int.reduceEq,Int.reduceToNat,Int.reduceNeg,zed,zee,zfr,zhw,ysu,yrg,g3,g5,g7,g14,b7,b14,c27,newK_row st_brS_52_1,maskE_nilSlice]
      rw [h26 _ (by (repeat (first | exact Fr.refl _ | assumption | refine Fr.allocd ?_ _ | refine Fr.kill ?_ (by first | assumption | omega) | refine Fr.put ?_ (by first | omega | (simp only [yz] <;> omega)) _))) _ _ _ (by simp (disch := (first | (simp only [ne_eq,Nat.reduceEqDiff,not_false_eq_true,Nat.reduceLT]; done) | omega | (simp only [yz] <;> omega) | fail)) only [yg,Nat.reduceAdd,Nat.reduceEqDiff,Nat.reduceLT]) (by simp (disch := (first | (simp only [ne_eq,Nat.reduceEqDiff,not_false_eq_true,Nat.reduceLT]; done) | omega | (simp only [yz] <;> omega) | fail)) only [yg,Nat.reduceAdd,Nat.reduceEqDiff,Nat.reduceLT])]
      simp (disch := (first | (simp only [ne_eq,Nat.reduceEqDiff,not_false_eq_true,Nat.reduceLT]; done) | omega | (simp only [yz] <;> omega) | fail)) only [↓yp,yq0,yq1,yq2,yq3,yq4,yl,ys0,ys1,Nat.reduceAdd,Nat.reduceMul,Nat.reduceSub,Nat.reduceBEq,Nat.reduceEqDiff,Nat.reduceLT,Nat.reduceLeDiff,reduceIte,Int.reduceAdd,Int.reduceSub,Int.reduceMul,Int.reduceLT,Int.reduceLE,Int.reduceEq,Int.reduceToNat,Int.reduceNeg,zed,zee,zfr,zhw,ysu,yrg,g3,g5,g7,g14,b7,b14,c27,newK_row st_brS_52_1,maskE_nilSlice]
      rw [h26 _ (by (repeat (first | exact Fr.refl _ | assumption | refine Fr.allocd ?_ _ | refine Fr.kill ?_ (by first | assumption | omega) | refine Fr.put ?_ (by first | omega | (simp only [yz] <;> omega)) _))) _ _ _ (by simp (disch := (first | (simp only [ne_eq,Nat.reduceEqDiff,not_false_eq_true,Nat.reduceLT]; done) | omega | (simp only [yz] <;> omega) | fail)) only [yg,Nat.reduceAdd,Nat.reduceEqDiff,Nat.reduceLT]) (by simp (disch := (first | (simp only [ne_eq,Nat.reduceEqDiff,not_false_eq_true,Nat.reduceLT]; done) | omega | (simp only [yz] <;> omega) | fail)) only [yg,Nat.reduceAdd,Nat.reduceEqDiff,Nat.reduceLT]), hq]
      simp (disch := (first | (simp only [ne_eq,Nat.reduceEqDiff,not_false_eq_true,Nat.reduceLT]; done) | omega | (simp only [yz] <;> omega) | fail)) only [↓yp,yq0,yq1,yq2,yq3,yq4,yl,ys0,ys1,Nat.reduceAdd,Nat.reduceMul,Nat.reduceSub,Nat.reduceBEq,Nat.reduceEqDiff,Nat.reduceLT,Nat.reduceLeDiff,reduceIte,Int.reduceAdd,Int.reduceSub,Int.reduceMul,Int.reduceLT,Int.reduceLE,Int.reduceEq,Int.reduceToNat,Int.reduceNeg,zed,zee,zfr,zhw,ysu,yrg]
      refine ⟨I.next (by (repeat (first | exact Fr.refl _ | assumption | refine Fr.allocd ?_ _ | refine Fr.kill ?_ (by first | assumption | omega) | refine Fr.put ?_ (by first | omega | (simp only [yz] <;> omega)) _))) (by (with_reducible (repeat (first | refine Keep.put ?_ (by decide) | refine Keep.none ?_ | assumption | exact Keep.refl _ _ _)))), ?_, ?_⟩
      · simp (disch := (first | (simp only [ne_eq,Nat.reduceEqDiff,not_false_eq_true,Nat.reduceLT]; done) | omega | (simp only [yz] <;> omega) | fail)) only [yg,Nat.reduceAdd,Nat.reduceEqDiff,Nat.reduceLT]
      · simp (disch := (first | (simp only [ne_eq,Nat.reduceEqDiff,not_false_eq_true,Nat.reduceLT]; done) | omega | (simp only [yz] <;> omega) | fail)) only [yg,Nat.reduceAdd,Nat.reduceEqDiff,Nat.reduceLT,g16]
    clear sz I g16
    rintro e H' ⟨I, g15, g16⟩
    have sz := I.sz
    by_cases h0 : q = 0
    · have hd0 : decide (q = 0) = true := by simpa using h0
      have g3 := I.g3
      have g5 := I.g5
      have g7 := I.g7
      have g14 := I.g14
      have b7 := I.b7
      have b14 := I.b14
      rw [h0] at hq
      obtain ⟨hc, hw, hd, hcs, -, hms⟩ := asked_ok hq
      have g := good_of hc hd
      have hC := g.hC
      have hto := hcs to (by simp)
      simp (disch := (first | (simp only [ne_eq,Nat.reduceEqDiff,not_false_eq_true,Nat.reduceLT]; done) | omega | (simp only [yz] <;> omega) | fail)) only [↓yp,yq0,yq1,yq2,yq3,yq4,yl,ys0,ys1,Nat.reduceAdd,Nat.reduceMul,Nat.reduceSub,Nat.reduceBEq,Nat.reduceEqDiff,Nat.reduceLT,Nat.reduceLeDiff,reduceIte,Int.reduceAdd,Int.reduceSub,Int.reduceMul,Int.reduceLT,Int.reduceLE,Int.reduceEq,Int.reduceToNat,Int.reduceNeg,zed,zee,zfr,zhw,ysu,yrg,g15,hd0]
      refine W_draw [5] rfl (by kernel_rfl) (by kernel_rfl) (by (first | omega | (simp only [yz] <;> omega))) ?_
      simp (disch := (first | (simp only [ne_eq,Nat.reduceEqDiff,not_false_eq_true,Nat.reduceLT]; done) | omega | (simp only [yz] <;> omega) | fail)) only [↓yp,yq0,yq1,yq2,yq3,yq4,yl,ys0,ys1,Nat.reduceAdd,Nat.reduceMul,Nat.reduceSub,Nat.reduceBEq,Nat.reduceEqDiff,Nat.reduceLT,Nat.reduceLeDiff,reduceIte,Int.reduceAdd,Int.reduceSub,Int.reduceMul,Int.reduceLT,Int.reduceLE,Int.reduceEq,Int.reduceToNat,Int.reduceNeg,zed,zee,zfr,zhw,ysu,yrg,g3,g5,g7,g14,b7,b14,c27]
      refine c34 I.s2 hl g ⟨by omega, by omega⟩ (hms bm (by simp)) (by (first | omega | (simp only [yz] <;> omega))) (by omega) ?_
      intro k cap' H3 fr3 hk1 hk2 hx
      have s3 := fr3.same
      have f3 := fr3.size
      obtain ⟨al, hx⟩ := hx
      simp (disch := (first | (simp only [ne_eq,Nat.reduceEqDiff,not_false_eq_true,Nat.reduceLT]; done) | omega | (simp only [yz] <;> omega) | fail)) only [↓yp,yq0,yq1,yq2,yq3,yq4,yl,ys0,ys1,Nat.reduceAdd,Nat.reduceMul,Nat.reduceSub,Nat.reduceBEq,Nat.reduceEqDiff,Nat.reduceLT,Nat.reduceLeDiff,reduceIte,Int.reduceAdd,Int.reduceSub,Int.reduceMul,Int.reduceLT,Int.reduceLE,Int.reduceEq,Int.reduceToNat,Int.reduceNeg,zed,zee,zfr,zhw,ysu,yrg,g3,g5,g7,g14,b7,b14,c27,s3]
      refine ⟨I.next fr3 (by (with_reducible (repeat (first | refine Keep.put ?_ (by decide) | refine Keep.none ?_ | assumption | exact Keep.refl _ _ _)))), ?_, .inl ⟨h0, k, cap', ?_, hk2, true, al, ht ▸ hx⟩⟩
      · simp (disch := (first | (simp only [ne_eq,Nat.reduceEqDiff,not_false_eq_true,Nat.reduceLT]; done) | omega | (simp only [yz] <;> omega) | fail)) only [yg,Nat.reduceAdd,Nat.reduceEqDiff,Nat.reduceLT,g15]
      · simp (disch := (first | (simp only [ne_eq,Nat.reduceEqDiff,not_false_eq_true,Nat.reduceLT]; done) | omega | (simp only [yz] <;> omega) | fail)) only [yg,Nat.reduceAdd,Nat.reduceEqDiff,Nat.reduceLT,(tlen h0).1]
    · have hd0 : decide (q = 0) = false := by simpa using h0
      simp (disch := (first | (simp only [ne_eq,Nat.reduceEqDiff,not_false_eq_true,Nat.reduceLT]; done) | omega | (simp only [yz] <;> omega) | fail)) only [↓yp,yq0,yq1,yq2,yq3,yq4,yl,ys0,ys1,Nat.reduceAdd,Nat.reduceMul,Nat.reduceSub,Nat.reduceBEq,Nat.reduceEqDiff,Nat.reduceLT,Nat.reduceLeDiff,reduceIte,Int.reduceAdd,Int.reduceSub,Int.reduceMul,Int.reduceLT,Int.reduceLE,Int.reduceEq,Int.reduceToNat,Int.reduceNeg,zed,zee,zfr,zhw,ysu,yrg,g15,hd0]
      refine ⟨I.next (Fr.refl _) (by (with_reducible (repeat (first | refine Keep.put ?_ (by decide) | refine Keep.none ?_ | assumption | exact Keep.refl _ _ _)))), ?_, .inr ⟨h0, ?_⟩⟩
      · simp (disch := (first | (simp only [ne_eq,Nat.reduceEqDiff,not_false_eq_true,Nat.reduceLT]; done) | omega | (simp only [yz] <;> omega) | fail)) only [yg,Nat.reduceAdd,Nat.reduceEqDiff,Nat.reduceLT,g15]
      · simp (disch := (first | (simp only [ne_eq,Nat.reduceEqDiff,not_false_eq_true,Nat.reduceLT]; done) | omega | (simp only [yz] <;> omega) | fail)) only [yg,Nat.reduceAdd,Nat.reduceEqDiff,Nat.reduceLT,g16]
  clear sz I g16
  rintro e H' ⟨I, g15, w16⟩
  have sz := I.sz
  refine W_seqI (fun e' H'' => LaidM H a cap l C w ld fr to m bm e' H'' a1 cap1 a2 cap2 ∧ gt 152 e' 15 = .int .i64 q ∧ Wn H'' (gt 152 e' 16) q t ∧ gt 152 e' 18 = .int .i64 q ∧ Wn H'' (gt 152 e' 17) q t) ?_ ?_
  · have g3 := I.g3
    have g5 := I.g5
    have g7 := I.g7
    have g13 := I.g13
    have b7 := I.b7
    have b13 := I.b13
    simp (disch := (first | (simp only [ne_eq,Nat.reduceEqDiff,not_false_eq_true,Nat.reduceLT]; done) | omega | (simp only [yz] <;> omega) | fail)) only [↓yp,yq0,yq1,yq2,yq3,yq4,yl,ys0,ys1,Nat.reduceAdd,Nat.reduceMul,Nat.reduceSub,Nat.reduceBEq,Nat.reduceEqDiff,Nat.reduceLT,Nat.reduceLeDiff,reduceIte,Int.reduceAdd,Int.reduceSub,Int.reduceMul,Int.reduceLT,Int.reduceLE,Int.reduceEq,Int.reduceToNat,Int.reduceNeg,zed,zee,zfr,zhw,ysu,yrg,g3,g5,g7,g13,b7,b13]
    by_cases h0 : q = 0
    · have h0' := h0
      subst h0'
      refine c35k I.s1 hl hq (by (first | omega | (simp only [yz] <;> omega))) (by omega) ?_
      intro k cap' H3 fr3 hk1 hk2 hx
      simp (disch := (first | (simp only [ne_eq,Nat.reduceEqDiff,not_false_eq_true,Nat.reduceLT]; done) | omega | (simp only [yz] <;> omega) | fail)) only [↓yp,yq0,yq1,yq2,yq3,yq4,yl,ys0,ys1,Nat.reduceAdd,Nat.reduceMul,Nat.reduceSub,Nat.reduceBEq,Nat.reduceEqDiff,Nat.reduceLT,Nat.reduceLeDiff,reduceIte,Int.reduceAdd,Int.reduceSub,Int.reduceMul,Int.reduceLT,Int.reduceLE,Int.reduceEq,Int.reduceToNat,Int.reduceNeg,zed,zee,zfr,zhw,ysu,yrg]
      refine ⟨I.next fr3 (by (with_reducible (repeat (first | refine Keep.put ?_ (by decide) | refine Keep.none ?_ | assumption | exact Keep.refl _ _ _)))), ?_, ?_, ?_, .inl ⟨rfl, k, cap', ?_, hk2, true, [], ht ▸ hx⟩⟩
      · simp (disch := (first | (simp only [ne_eq,Nat.reduceEqDiff,not_false_eq_true,Nat.reduceLT]; done) | omega | (simp only [yz] <;> omega) | fail)) only [yg,Nat.reduceAdd,Nat.reduceEqDiff,Nat.reduceLT,g15]
      · simp (disch := (first | (simp only [ne_eq,Nat.reduceEqDiff,not_false_eq_true,Nat.reduceLT]; done) | omega | (simp only [yz] <;> omega) | fail)) only [yg,Nat.reduceAdd,Nat.reduceEqDiff,Nat.reduceLT]
        exact w16.fr fr3
      · simp (disch := (first | (simp only [ne_eq,Nat.reduceEqDiff,not_false_eq_true,Nat.reduceLT]; done) | omega | (simp only [yz] <;> omega) | fail)) only [yg,Nat.reduceAdd,Nat.reduceEqDiff,Nat.reduceLT]
      · simp (disch := (first | (simp only [ne_eq,Nat.reduceEqDiff,not_false_eq_true,Nat.reduceLT]; done) | omega | (simp only [yz] <;> omega) | fail)) only [yg,Nat.reduceAdd,Nat.reduceEqDiff,Nat.reduceLT,(tlen rfl).1]
    · rw [c35e I.s1 hl (by rw [hq]; exact h0), hq]
      simp (disch := (first | (simp only [ne_eq,Nat.reduceEqDiff,not_false_eq_true,Nat.reduceLT]; done) | omega | (simp only [yz] <;> omega) | fail)) only [↓yp,yq0,yq1,yq2,yq3,yq4,yl,ys0,ys1,Nat.reduceAdd,Nat.reduceMul,Nat.reduceSub,Nat.reduceBEq,Nat.reduceEqDiff,Nat.reduceLT,Nat.reduceLeDiff,reduceIte,Int.reduceAdd,Int.reduceSub,Int.reduceMul,Int.reduceLT,Int.reduceLE,Int.reduceEq,Int.reduceToNat,Int.reduceNeg,zed,zee,zfr,zhw,ysu,yrg]
      refine ⟨I.next (Fr.refl _) (by (with_reducible (repeat (first | refine Keep.put ?_ (by decide) | refine Keep.none ?_ | assumption | exact Keep.refl _ _ _)))), ?_, ?_, ?_, .inr ⟨h0, ?_⟩⟩
      · simp (disch := (first | (simp only [ne_eq,Nat.reduceEqDiff,not_false_eq_true,Nat.reduceLT]; done) | omega | (simp only [yz] <;> omega) | fail)) only [yg,Nat.reduceAdd,Nat.reduceEqDiff,Nat.reduceLT,g15]
      · simp (disch := (first | (simp only [ne_eq,Nat.reduceEqDiff,not_false_eq_true,Nat.reduceLT]; done) | omega | (simp only [yz] <;> omega) | fail)) only [yg,Nat.reduceAdd,Nat.reduceEqDiff,Nat.reduceLT]
        exact w16
      · simp (disch := (first | (simp only [ne_eq,Nat.reduceEqDiff,not_false_eq_true,Nat.reduceLT]; done) | omega | (simp only [yz] <;> omega) | fail)) only [yg,Nat.reduceAdd,Nat.reduceEqDiff,Nat.reduceLT]
      · simp (disch := (first | (simp only [ne_eq,Nat.reduceEqDiff,not_false_eq_true,Nat.reduceLT]; done) | omega | (simp only [yz] <;> omega) | fail)) only [yg,Nat.reduceAdd,Nat.reduceEqDiff,Nat.reduceLT]
  clear sz I g15 w16
  rintro e H' ⟨I, g15, w16, g18, w17⟩
  have sz := I.sz
  have tl8 : t.length ≤ 8 ∨ q ≠ 0 := by
    by_cases h0 : q = 0
    · exact .inl (tlen h0).2
    · exact .inr h0
  refine W_seqI (fun e' H'' => LaidM H a cap l C w ld fr to m bm e' H'' a1 cap1 a2 cap2 ∧ Wn H'' (gt 152 e' 16) q t) ?_ ?_
  · have h33 := fun (N : Nat) => w17.same (N := N) w16 tl8
    simp (disch := (first | (simp only [ne_eq,Nat.reduceEqDiff,not_false_eq_true,Nat.reduceLT]; done) | omega | (simp only [yz] <;> omega) | fail)) only [↓yp,yq0,yq1,yq2,yq3,yq4,yl,ys0,ys1,Nat.reduceAdd,Nat.reduceMul,Nat.reduceSub,Nat.reduceBEq,Nat.reduceEqDiff,Nat.reduceLT,Nat.reduceLeDiff,reduceIte,Int.reduceAdd,Int.reduceSub,Int.reduceMul,Int.reduceLT,Int.reduceLE,Int.reduceEq,Int.reduceToNat,Int.reduceNeg,zed,zee,zfr,zhw,ysu,yrg,g15,g18,hcc,h33]
    refine ⟨I.next (Fr.refl _) (by (with_reducible (repeat (first | refine Keep.put ?_ (by decide) | refine Keep.none ?_ | assumption | exact Keep.refl _ _ _)))), ?_⟩
    simp (disch := (first | (simp only [ne_eq,Nat.reduceEqDiff,not_false_eq_true,Nat.reduceLT]; done) | omega | (simp only [yz] <;> omega) | fail)) only [yg,Nat.reduceAdd,Nat.reduceEqDiff,Nat.reduceLT]
    exact w16
  clear sz I g15 w16 g18 w17 tl8
  rintro e H' ⟨I, w16⟩
  have sz := I.sz
  obtain ⟨sp, hsp⟩ : ∃ sp, spareV C l w ld fr to m bm = sp := ⟨_, rfl⟩
  refine W_seqI (fun e' H'' => LaidM H a cap l C w ld fr to m bm e' H'' a1 cap1 a2 cap2 ∧ Wn H'' (gt 152 e' 16) q t ∧ gt 152 e' 19 = .int .i64 sp.1 ∧ gt 152 e' 18 = .int .i64 sp.2) ?_ ?_
  · have g2 := I.g2
    have g3 := I.g3
    have g4 := I.g4
    have g5 := I.g5
    have g7 := I.g7
    have g13 := I.g13
    have b7 := I.b7
    have b13 := I.b13
    simp (disch := (first | (simp only [ne_eq,Nat.reduceEqDiff,not_false_eq_true,Nat.reduceLT]; done) | omega | (simp only [yz] <;> omega) | fail)) only [↓yp,yq0,yq1,yq2,yq3,yq4,yl,ys0,ys1,Nat.reduceAdd,Nat.reduceMul,Nat.reduceSub,Nat.reduceBEq,Nat.reduceEqDiff,Nat.reduceLT,Nat.reduceLeDiff,reduceIte,Int.reduceAdd,Int.reduceSub,Int.reduceMul,Int.reduceLT,Int.reduceLE,Int.reduceEq,Int.reduceToNat,Int.reduceNeg,zed,zee,zfr,zhw,ysu,yrg,g2,g3,g4,g5,g7,g13,b7,b13]
    rw [c36 I.s1 hl, hsp]
    simp (disch := (first | (simp only [ne_eq,Nat.reduceEqDiff,not_false_eq_true,Nat.reduceLT]; done) | omega | (simp only [yz] <;> omega) | fail)) only [↓yp,yq0,yq1,yq2,yq3,yq4,yl,ys0,ys1,Nat.reduceAdd,Nat.reduceMul,Nat.reduceSub,Nat.reduceBEq,Nat.reduceEqDiff,Nat.reduceLT,Nat.reduceLeDiff,reduceIte,Int.reduceAdd,Int.reduceSub,Int.reduceMul,Int.reduceLT,Int.reduceLE,Int.reduceEq,Int.reduceToNat,Int.reduceNeg,zed,zee,zfr,zhw,ysu,yrg]
    refine ⟨I.next (Fr.refl _) (by (with_reducible (repeat (first | refine Keep.put ?_ (by decide) | refine Keep.none ?_ | assumption | exact Keep.refl _ _ _)))), ?_, ?_, ?_⟩
    · simp (disch := (first | (simp only [ne_eq,Nat.reduceEqDiff,not_false_eq_true,Nat.reduceLT]; done) | omega | (simp only [yz] <;> omega) | fail)) only [yg,Nat.reduceAdd,Nat.reduceEqDiff,Nat.reduceLT]
      exact w16
    · simp (disch := (first | (simp only [ne_eq,Nat.reduceEqDiff,not_false_eq_true,Nat.reduceLT]; done) | omega | (simp only [yz] <;> omega) | fail)) only [yg,Nat.reduceAdd,Nat.reduceEqDiff,Nat.reduceLT]
    · simp (disch := (first | (simp only [ne_eq,Nat.reduceEqDiff,not_false_eq_true,Nat.reduceLT]; done) | omega | (simp only [yz] <;> omega) | fail)) only [yg,Nat.reduceAdd,Nat.reduceEqDiff,Nat.reduceLT]
  clear sz I w16
  rintro e H' ⟨I, w16, g19, g18⟩
  have sz := I.sz
  refine W_seqI (fun e' H'' => LaidM H a cap l C w ld fr to m bm e' H'' a1 cap1 a2 cap2 ∧ Wn H'' (gt 152 e' 16) q t ∧ gt 152 e' 19 = .int .i64 sp.1 ∧ gt 152 e' 18 = .int .i64 sp.2 ∧ gt 152 e' 20 = .int .i64 0) ?_ ?_
  · simp (disch := (first | (simp only [ne_eq,Nat.reduceEqDiff,not_false_eq_true,Nat.reduceLT]; done) | omega | (simp only [yz] <;> omega) | fail)) only [↓yp,yq0,yq1,yq2,yq3,yq4,yl,ys0,ys1,Nat.reduceAdd,Nat.reduceMul,Nat.reduceSub,Nat.reduceBEq,Nat.reduceEqDiff,Nat.reduceLT,Nat.reduceLeDiff,reduceIte,Int.reduceAdd,Int.reduceSub,Int.reduceMul,Int.reduceLT,Int.reduceLE,Int.reduceEq,Int.reduceToNat,Int.reduceNeg,zed,zee,zfr,zhw,ysu,yrg]
    refine ⟨I.next (Fr.refl _) (by (with_reducible (repeat (first | refine Keep.put ?_ (by decide) | refine Keep.none ?_ | assumption | exact Keep.refl _ _ _)))), ?_, ?_, ?_, ?_⟩
    · simp (disch := (first | (simp only [ne_eq,Nat.reduceEqDiff,not_false_eq_true,Nat.reduceLT]; done) | omega | (simp only [yz] <;> omega) | fail)) only [yg,Nat.reduceAdd,Nat.reduceEqDiff,Nat.reduceLT]
      exact w16
    · simp (disch := (first | (simp only [ne_eq,Nat.reduceEqDiff,not_false_eq_true,Nat.reduceLT]; done) | omega | (simp only [yz] <;> omega) | fail)) only [yg,Nat.reduceAdd,Nat.reduceEqDiff,Nat.reduceLT,g19]
    · simp (disch := (first | (simp only [ne_eq,Nat.reduceEqDiff,not_false_eq_true,Nat.reduceLT]; done) | omega | (simp only [yz] <;> omega) | fail)) only [yg,Nat.reduceAdd,Nat.reduceEqDiff,Nat.reduceLT,g18]
    · simp (disch := (first | (simp only [ne_eq,Nat.reduceEqDiff,not_false_eq_true,Nat.reduceLT]; done) | omega | (simp only [yz] <;> omega) | fail)) only [yg,Nat.reduceAdd,Nat.reduceEqDiff,Nat.reduceLT]
  clear sz I w16 g19 g18
  rintro e H' ⟨I, w16, g19, g18, g20⟩
  have sz := I.sz
  refine W_seqI (fun e' H'' => LaidM H a cap l C w ld fr to m bm e' H'' a1 cap1 a2 cap2 ∧ gt 152 e' 19 = .int .i64 sp.1 ∧ gt 152 e' 18 = .int .i64 sp.2 ∧ gt 152 e' 20 = .int .i64 sp.1 ∧ gt 152 e' 15 = .int .i64 sp.2) ?_ ?_
  · obtain ⟨q3, hq3⟩ : ∃ q, asked C l w ld [fr, to] [] [m, bm] = q := ⟨_, rfl⟩
    refine W_seqI (fun e' H'' => LaidM H a cap l C w ld fr to m bm e' H'' a1 cap1 a2 cap2 ∧ Wn H'' (gt 152 e' 16) q t ∧ gt 152 e' 19 = .int .i64 sp.1 ∧ gt 152 e' 18 = .int .i64 sp.2 ∧ gt 152 e' 20 = .int .i64 0 ∧ gt 152 e' 15 = .int .i64 q3) ?_ ?_
    · have g2 := I.g2
      have g3 := I.g3
      have g4 := I.g4
      have g5 := I.g5
      have g7 := I.g7
      have g14 := I.g14
      have b7 := I.b7
      have b14 := I.b14
      refine W_drawR (pl := [(5, .rw [.int .i64 fr, .int .i64 to] 3 false []), (8, .rw [.int .i64 m, .int .i64 bm] 3 false [])]) [] [] (plan22M rfl g2 g3 g4 g5) (by kernel_rfl) (by kernel_rfl) (by kernel_rfl) (by (first | omega | (simp only [yz] <;> omega))) ?_
      have h26 := fun (H'' : AHeap) (f : Fr H' H'') (N b₁ b₂ : Nat) (h₁ : cellsOf (H''.get b₁) = some [.int .i64 fr, .int .i64 to]) (h₂ : cellsOf (H''.get b₂) = some [.int .i64 m, .int .i64 bm]) => c26f (N := N) (C := C) (w := w) (ld := ld) (cap := cap2) (k₁ := b₁) (k₂ := b₂) (I.s2.fr f) hl h₁ h₂
      simp (disch := (first | (simp only [ne_eq,Nat.reduceEqDiff,not_false_eq_true,Nat.reduceLT]; done) | omega | (simp only [yz] <;> omega) | fail)) only [↓yp,yq0,yq1,yq2,yq3,yq4,yl,ys0,ys1,Nat.reduceAdd,Nat.reduceMul,Nat.reduceSub,Nat.reduceBEq,Nat.reduceEqDiff,Nat.reduceLT,Nat.reduceLeDiff,reduceIte,Int.reduceAdd,Int.reduceSub,Int.reduceMul,Int.reduceLT,Int.reduceLE,Int.reduceEq,Int.reduceToNat,Int.reduceNeg,zed,zee,zfr,zhw,ysu,yrg,g2,g3,g4,g5,g7,g14,b7,b14,c27,newK_row st_brS_52_2,maskE_nilSlice]
      rw [h26 _ (by (repeat (first | exact Fr.refl _ | assumption | refine Fr.allocd ?_ _ | refine Fr.kill ?_ (by first | assumption | omega) | refine Fr.put ?_ (by first | omega | (simp only [yz] <;> omega)) _))) _ _ _ (by simp (disch := (first | (simp only [ne_eq,Nat.reduceEqDiff,not_false_eq_true,Nat.reduceLT]; done) | omega | (simp only [yz] <;> omega) | fail)) only [yg,Nat.reduceAdd,Nat.reduceEqDiff,Nat.reduceLT]) (by simp (disch := (first | (simp only [ne_eq,Nat.reduceEqDiff,not_false_eq_true,Nat.reduceLT]; done) | omega | (simp only [yz] <;> omega) | fail)) only [yg,Nat.reduceAdd,Nat.reduceEqDiff,Nat.reduceLT])]
      simp (disch := (first | (simp only [ne_eq,Nat.reduceEqDiff,not_false_eq_true,Nat.reduceLT]; done) | omega | (simp only [yz] <;> omega) | fail)) only [↓yp,yq0,yq1,yq2,yq3,yq4,yl,ys0,ys1,Nat.reduceAdd,Nat.reduceMul,Nat.reduceSub,Nat.reduceBEq,Nat.reduceEqDiff,Nat.reduceLT,Nat.reduceLeDiff,reduceIte,Int.reduceAdd,Int.reduceSub,Int.reduceMul,Int.reduceLT,Int.reduceLE,Int.reduceEq,Int.reduceToNat,Int.reduceNeg,zed,zee,zfr,zhw,ysu,yrg,g2,g3,g4,g5,g7,g14,b7,b14,c27,newK_row st_brS_52_2,maskE_nilSlice]
      rw [h26 _ (by (repeat (first | exact Fr.refl _ | assumption | refine Fr.allocd ?_ _ | refine Fr.kill ?_ (by first | assumption | omega) | refine Fr.put ?_ (by first | omega | (simp only [yz] <;> omega)) _))) _ _ _ (by simp (disch := (first | (simp only [ne_eq,Nat.reduceEqDiff,not_false_eq_true,Nat.reduceLT]; done) | omega | (simp only [yz] <;> omega) | fail)) only [yg,Nat.reduceAdd,Nat.reduceEqDiff,Nat.reduceLT]) (by simp (disch := (first | (simp only [ne_eq,Nat.reduceEqDiff,not_false_eq_true,Nat.reduceLT]; done) | omega | (simp only [yz] <;> omega) | fail)) only [yg,Nat.reduceAdd,Nat.reduceEqDiff,Nat.reduceLT]), hq3]
      simp (disch := (first | (simp only [ne_eq,Nat.reduceEqDiff,not_false_eq_true,Nat.reduceLT]; done) | omega | (simp only [yz] <;> omega) | fail)) only [↓yp,yq0,yq1,yq2,yq3,yq4,yl,ys0,ys1,Nat.reduceAdd,Nat.reduceMul,Nat.reduceSub,Nat.reduceBEq,Nat.reduceEqDiff,Nat.reduceLT,Nat.reduceLeDiff,reduceIte,Int.reduceAdd,Int.reduceSub,Int.reduceMul,Int.reduceLT,Int.reduceLE,Int.reduceEq,Int.reduceToNat,Int.reduceNeg,zed,zee,zfr,zhw,ysu,yrg]
      refine ⟨I.next (by (repeat (first | exact Fr.refl _ | assumption | refine Fr.allocd ?_ _ | refine Fr.kill ?_ (by first | assumption | omega) | refine Fr.put ?_ (by first | omega | (simp only [yz] <;> omega)) _))) (by (with_reducible (repeat (first | refine Keep.put ?_ (by decide) | refine Keep.none ?_ | assumption | exact Keep.refl _ _ _)))), ?_, ?_, ?_, ?_, ?_⟩
      · simp (disch := (first | (simp only [ne_eq,Nat.reduceEqDiff,not_false_eq_true,Nat.reduceLT]; done) | omega | (simp only [yz] <;> omega) | fail)) only [yg,Nat.reduceAdd,Nat.reduceEqDiff,Nat.reduceLT]
        exact w16.fr (by (repeat (first | exact Fr.refl _ | assumption | refine Fr.allocd ?_ _ | refine Fr.kill ?_ (by first | assumption | omega) | refine Fr.put ?_ (by first | omega | (simp only [yz] <;> omega)) _)))
      · simp (disch := (first | (simp only [ne_eq,Nat.reduceEqDiff,not_false_eq_true,Nat.reduceLT]; done) | omega | (simp only [yz] <;> omega) | fail)) only [yg,Nat.reduceAdd,Nat.reduceEqDiff,Nat.reduceLT,g19]
      · simp (disch := (first | (simp only [ne_eq,Nat.reduceEqDiff,not_false_eq_true,Nat.reduceLT]; done) | omega | (simp only [yz] <;> omega) | fail)) only [yg,Nat.reduceAdd,Nat.reduceEqDiff,Nat.reduceLT,g18]
      · simp (disch := (first | (simp only [ne_eq,Nat.reduceEqDiff,not_false_eq_true,Nat.reduceLT]; done) | omega | (simp only [yz] <;> omega) | fail)) only [yg,Nat.reduceAdd,Nat.reduceEqDiff,Nat.reduceLT,g20]
      · simp (disch := (first | (simp only [ne_eq,Nat.reduceEqDiff,not_false_eq_true,Nat.reduceLT]; done) | omega | (simp only [yz] <;> omega) | fail)) only [yg,Nat.reduceAdd,Nat.reduceEqDiff,Nat.reduceLT]
    clear sz I w16 g19 g18 g20
    rintro e H' ⟨I, w16, g19, g18, g20, g15⟩
    have sz := I.sz
    by_cases h0 : q3 = 0
    rotate_left
    · have hd0 : decide (q3 = 0) = false := by simpa using h0
      have e : sp = (0, q3) := by rw [← hsp]; unfold spareV; rw [hq3, if_pos h0]
      subst e
      simp (disch := (first | (simp only [ne_eq,Nat.reduceEqDiff,not_false_eq_true,Nat.reduceLT]; done) | omega | (simp only [yz] <;> omega) | fail)) only [↓yp,yq0,yq1,yq2,yq3,yq4,yl,ys0,ys1,Nat.reduceAdd,Nat.reduceMul,Nat.reduceSub,Nat.reduceBEq,Nat.reduceEqDiff,Nat.reduceLT,Nat.reduceLeDiff,reduceIte,Int.reduceAdd,Int.reduceSub,Int.reduceMul,Int.reduceLT,Int.reduceLE,Int.reduceEq,Int.reduceToNat,Int.reduceNeg,zed,zee,zfr,zhw,ysu,yrg,g15,hd0]
      refine ⟨I.next (Fr.refl _) (by (with_reducible (repeat (first | refine Keep.put ?_ (by decide) | refine Keep.none ?_ | assumption | exact Keep.refl _ _ _)))), ?_, ?_, ?_, ?_⟩
      · simp (disch := (first | (simp only [ne_eq,Nat.reduceEqDiff,not_false_eq_true,Nat.reduceLT]; done) | omega | (simp only [yz] <;> omega) | fail)) only [yg,Nat.reduceAdd,Nat.reduceEqDiff,Nat.reduceLT,g19]
      · simp (disch := (first | (simp only [ne_eq,Nat.reduceEqDiff,not_false_eq_true,Nat.reduceLT]; done) | omega | (simp only [yz] <;> omega) | fail)) only [yg,Nat.reduceAdd,Nat.reduceEqDiff,Nat.reduceLT,g18]
      · simp (disch := (first | (simp only [ne_eq,Nat.reduceEqDiff,not_false_eq_true,Nat.reduceLT]; done) | omega | (simp only [yz] <;> omega) | fail)) only [yg,Nat.reduceAdd,Nat.reduceEqDiff,Nat.reduceLT,g20]
      · simp (disch := (first | (simp only [ne_eq,Nat.reduceEqDiff,not_false_eq_true,Nat.reduceLT]; done) | omega | (simp only [yz] <;> omega) | fail)) only [yg,Nat.reduceAdd,Nat.reduceEqDiff,Nat.reduceLT,g15]
    have hd0 : decide (q3 = 0) = true := by simpa using h0
    rw [h0] at hq3
    obtain ⟨hc, hw, hd, hcs, -, hms⟩ := asked_ok hq3
    have g := good_of hc hd
    have hC := g.hC
    have hto := hcs to (by simp)
    have hfr := hcs fr (by simp)
    have hm := hms m (by simp)
    have hbm := hms bm (by simp)
    have hq0 : q = 0 := by
      rw [← hq]
      exact asked_of hc hw hd (by simpa using hto) (by simp) (by simpa using hbm)
    have hT := latT_ok (w := w) g (to := to) (bm := bm) (by omega) hbm
    obtain ⟨k, cap', hv, hk, op, al, hx⟩ : Mi H' (gt 152 e 16) t := by
      rcases w16 with h | h
      · exact h.2
      · exact absurd hq0 h.1
    have htl := (tlen hq0).1
    have hat : (tv t)[fr.toNat]? = some (.int .i64 (tg (latT C l w ld to bm) fr)) := by
      rw [tv_get (by omega), ← ht]
      unfold tg
      rw [List.getD_eq_getElem?_getD, List.getD_eq_getElem?_getD, List.getElem?_take, if_pos (by omega)]
    have hr := hT.2 fr
    have hw3 : w64 (tg (latT C l w ld to bm) fr - m) = tg (latT C l w ld to bm) fr - m := w64_of (by have := hr.1; have := hr.2; omega)
    have g2 := I.g2
    have g4 := I.g4
    have hsp' : sp = if tg (latT C l w ld to bm) fr < m then (0, 1) else (tg (latT C l w ld to bm) fr - m, 0) := by
      rw [← hsp]; unfold spareV; rw [hq3, if_neg (by simp)]
    cases hD : decide (tg (latT C l w ld to bm) fr - m < 0)
    · have e : sp = (tg (latT C l w ld to bm) fr - m, 0) := by rw [hsp', if_neg (by have := of_decide_eq_false hD; omega)]
      rw [e] at g19 g18 ⊢
      simp (disch := (first | (simp only [ne_eq,Nat.reduceEqDiff,not_false_eq_true,Nat.reduceLT]; done) | omega | (simp only [yz] <;> omega) | fail)) only [↓yp,yq0,yq1,yq2,yq3,yq4,yl,ys0,ys1,Nat.reduceAdd,Nat.reduceMul,Nat.reduceSub,Nat.reduceBEq,Nat.reduceEqDiff,Nat.reduceLT,Nat.reduceLeDiff,reduceIte,Int.reduceAdd,Int.reduceSub,Int.reduceMul,Int.reduceLT,Int.reduceLE,Int.reduceEq,Int.reduceToNat,Int.reduceNeg,zed,zee,zfr,zhw,ysu,yrg,g15,hd0,hv,g2,g4,A_indexSlice zir,hx,hat,hw3,hD]
      refine ⟨I.next (Fr.refl _) (by (with_reducible (repeat (first | refine Keep.put ?_ (by decide) | refine Keep.none ?_ | assumption | exact Keep.refl _ _ _)))), ?_, ?_, ?_, ?_⟩
      · simp (disch := (first | (simp only [ne_eq,Nat.reduceEqDiff,not_false_eq_true,Nat.reduceLT]; done) | omega | (simp only [yz] <;> omega) | fail)) only [yg,Nat.reduceAdd,Nat.reduceEqDiff,Nat.reduceLT,g19]
      · simp (disch := (first | (simp only [ne_eq,Nat.reduceEqDiff,not_false_eq_true,Nat.reduceLT]; done) | omega | (simp only [yz] <;> omega) | fail)) only [yg,Nat.reduceAdd,Nat.reduceEqDiff,Nat.reduceLT,g18]
      · simp (disch := (first | (simp only [ne_eq,Nat.reduceEqDiff,not_false_eq_true,Nat.reduceLT]; done) | omega | (simp only [yz] <;> omega) | fail)) only [yg,Nat.reduceAdd,Nat.reduceEqDiff,Nat.reduceLT]
      · simp (disch := (first | (simp only [ne_eq,Nat.reduceEqDiff,not_false_eq_true,Nat.reduceLT]; done) | omega | (simp only [yz] <;> omega) | fail)) only [yg,Nat.reduceAdd,Nat.reduceEqDiff,Nat.reduceLT,g15,h0]
    · have e : sp = (0, 1) := by rw [hsp', if_pos (by have := of_decide_eq_true hD; omega)]
      rw [e] at g19 g18 ⊢
      simp (disch := (first | (simp only [ne_eq,Nat.reduceEqDiff,not_false_eq_true,Nat.reduceLT]; done) | omega | (simp only [yz] <;> omega) | fail)) only [↓yp,yq0,yq1,yq2,yq3,yq4,yl,ys0,ys1,Nat.reduceAdd,Nat.reduceMul,Nat.reduceSub,Nat.reduceBEq,Nat.reduceEqDiff,Nat.reduceLT,Nat.reduceLeDiff,reduceIte,Int.reduceAdd,Int.reduceSub,Int.reduceMul,Int.reduceLT,Int.reduceLE,Int.reduceEq,Int.reduceToNat,Int.reduceNeg,zed,zee,zfr,zhw,ysu,yrg,g15,hd0,hv,g2,g4,A_indexSlice zir,hx,hat,hw3,hD]
      refine ⟨I.next (Fr.refl _) (by (with_reducible (repeat (first | refine Keep.put ?_ (by decide) | refine Keep.none ?_ | assumption | exact Keep.refl _ _ _)))), ?_, ?_, ?_, ?_⟩
      · simp (disch := (first | (simp only [ne_eq,Nat.reduceEqDiff,not_false_eq_true,Nat.reduceLT]; done) | omega | (simp only [yz] <;> omega) | fail)) only [yg,Nat.reduceAdd,Nat.reduceEqDiff,Nat.reduceLT,g19]
      · simp (disch := (first | (simp only [ne_eq,Nat.reduceEqDiff,not_false_eq_true,Nat.reduceLT]; done) | omega | (simp only [yz] <;> omega) | fail)) only [yg,Nat.reduceAdd,Nat.reduceEqDiff,Nat.reduceLT,g18]
      · simp (disch := (first | (simp only [ne_eq,Nat.reduceEqDiff,not_false_eq_true,Nat.reduceLT]; done) | omega | (simp only [yz] <;> omega) | fail)) only [yg,Nat.reduceAdd,Nat.reduceEqDiff,Nat.reduceLT]
      · simp (disch := (first | (simp only [ne_eq,Nat.reduceEqDiff,not_false_eq_true,Nat.reduceLT]; done) | omega | (simp only [yz] <;> omega) | fail)) only [yg,Nat.reduceAdd,Nat.reduceEqDiff,Nat.reduceLT]
  clear sz I w16 g19 g18 g20
  rintro e H' ⟨I, g19, g18, g20, g15⟩
  have sz := I.sz
  have g6 := I.g6
  have g13 := I.g13
  have b6 := I.b6
  have b13 := I.b13
  have h30 := fun (N : Nat) => c30 (N := N) (C := C) (cap := cap1) (cap' := cap) I.s1 (hs.fr I.fr) hl hok
  simp (disch := (first | (simp only [ne_eq,Nat.reduceEqDiff,not_false_eq_true,Nat.reduceLT]; done) | omega | (simp only [yz] <;> omega) | fail)) only [↓yp,yq0,yq1,yq2,yq3,yq4,yl,ys0,ys1,Nat.reduceAdd,Nat.reduceMul,Nat.reduceSub,Nat.reduceBEq,Nat.reduceEqDiff,Nat.reduceLT,Nat.reduceLeDiff,reduceIte,Int.reduceAdd,Int.reduceSub,Int.reduceMul,Int.reduceLT,Int.reduceLE,Int.reduceEq,Int.reduceToNat,Int.reduceNeg,zed,zee,zfr,zhw,ysu,yrg,g19,g18,g20,g15,g6,g13,b6,b13,hcc,h30,awake_r]
end
end Go.Am
