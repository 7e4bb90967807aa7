/- Calls whose outcome is known, from heaps that have more blocks than are needed. -/
import Derived.Test.YtnibabkgeolenaaT13
set_option linter.unusedSimpArgs false
set_option linter.unusedVariables false
namespace Go.Am
variable {T : Tab} {P : Program}
def keyL (l : List (Nat × ABlk)) (k : Nat) : Bool := l.any fun p => Nat.beq p.1 k
theorem keyL_iff {l : List (Nat × ABlk)} {k : Nat} : keyL l k = true ↔ ∃ p ∈ l, p.1 = k := by
  unfold keyL
  rw [List.any_eq_true]
  exact ⟨fun ⟨p, h1, h2⟩ => ⟨p, h1, Nat.eq_of_beq_eq_true h2⟩, fun ⟨p, h1, h2⟩ => ⟨p, h1, by rw [h2]; exact Nat.beq_refl k⟩⟩
def inVb (l : List (Nat × ABlk)) : Nat → Value → Bool
  | 0, _ => false
  | n + 1, v => match v with
    | .pointer (some a) => keyL l a.block
    | .slice (some a) _ _ => keyL l a.block
    | .map (some r) => keyL l r
    | .chan _ => false
    | .func fn first captured => (match fn with
      | .yield _ => false
      | _ => true) && (first.toList.all (inVb l n) && captured.toList.all (inVb l n))
    | .iface _ v => inVb l n v
    | .agg cs => cs.toList.all (inVb l n)
    | .tuple vs => vs.toList.all (inVb l n)
    | _ => true
def inBb (l : List (Nat × ABlk)) : ABlk → Bool
  | .rw c _ _ al => c.all (inVb l 6) && al.all (keyL l)
  | .map es _ => es.all fun e => inVb l 6 e.1 && inVb l 6 e.2.1
  | _ => false
/-- What a known call needs, and what it gives, hang together. -/
def closedE (e : Loud) : Bool :=
  (e.l.all fun p => Nat.blt p.1 e.s && (inBb e.l p.2 && keyL e.l' p.1)) && (e.args.all (inVb e.l 6) && ((e.l'.all fun p => !Nat.blt p.1 e.s || keyL e.l p.1) && Nat.ble e.s e.s'))
theorem hp_alive {s : Nat} : ∀ {l : List (Nat × ABlk)} {k : Nat}, (∀ p ∈ l, p.2 ≠ .dead) → k < s → keyL l k = true → (hpOf s l).get k ≠ .dead
  | [], k, _, _, h => by cases h
  | p :: l, k, hd, hk, h => by
    rw [hpOf]
    by_cases e : k = p.1
    · rw [e, AHeap.get_put_same _ _ (by rw [hpOf_size]; omega)]
      exact hd p (by simp)
    · rw [AHeap.get_put_other _ _ e]
      refine hp_alive (fun q hq => hd q (List.mem_cons_of_mem _ hq)) hk ?_
      rw [keyL_iff] at h ⊢
      obtain ⟨q, h1, h2⟩ := h
      rcases List.mem_cons.1 h1 with rfl | h1
      · exact absurd h2.symm e
      · exact ⟨q, h1, h2⟩
theorem hp_dead {s : Nat} {l : List (Nat × ABlk)} {k : Nat} (h : keyL l k = false) : (hpOf s l).get k = .dead := by
  rcases hpOf_get s l k with e | ⟨p, h1, h2, _⟩
  · exact e
  · have : keyL l k = true := keyL_iff.2 ⟨p, h1, h2⟩
    rw [this] at h; cases h
theorem inVb_ok {s : Nat} {l : List (Nat × ABlk)} (hd : ∀ p ∈ l, p.2 ≠ .dead) (hs : ∀ p ∈ l, p.1 < s) : ∀ (n : Nat) (v : Value), inVb l n v = true → inV (hpOf s l) v := by
  have hk : ∀ k, keyL l k = true → (hpOf s l).get k ≠ .dead := fun k h => by
    obtain ⟨p, h1, h2⟩ := keyL_iff.1 h
    exact hp_alive hd (by rw [← h2]; exact hs p h1) h
  intro n
  induction n with
  | zero => intro v h; cases h
  | succ n ih =>
    intro v h
    cases v with
    | pointer a => cases a with
      | none => simp [inV]
      | some a => simp only [inV]; exact hk _ h
    | slice a x y => cases a with
      | none => simp [inV]
      | some a => simp only [inV]; exact hk _ h
    | map r => cases r with
      | none => simp [inV]
      | some r => simp only [inV]; exact hk _ h
    | chan r => cases h
    | func fn first captured =>
      simp only [inVb,Bool.and_eq_true,List.all_eq_true] at h
      obtain ⟨h1, h2, h3⟩ := h
      simp only [inV]
      refine ⟨fun l' e => (by rw [e] at h1; cases h1), fun v hv => ih v (h2 v (by simpa using hv)), fun v hv => ih v (h3 v (by simpa using hv))⟩
    | iface t v =>
      simp only [inV]
      exact ih v h
    | agg cs =>
      simp only [inVb,List.all_eq_true] at h
      simp only [inV]
      exact fun v hv => ih v (h v (by simpa using hv))
    | tuple cs =>
      simp only [inVb,List.all_eq_true] at h
      simp only [inV]
      exact fun v hv => ih v (h v (by simpa using hv))
    | bool _ => simp [inV]
    | int _ _ => simp [inV]
    | float _ _ => simp [inV]
    | complex _ _ _ => simp [inV]
    | string _ => simp [inV]
    | nilFunc => simp [inV]
    | nilIface => simp [inV]
theorem inBb_alive {l : List (Nat × ABlk)} {b : ABlk} (h : inBb l b = true) : b ≠ .dead := by
  intro e
  subst e
  cases h
/-- Blocks that come to those that are there. -/
def putL (H : AHeap) : List (Nat × ABlk) → AHeap
  | [] => H
  | p :: l => (putL H l).put p.1 p.2
theorem putL_size {H : AHeap} : ∀ l, (putL H l).size = H.size
  | [] => rfl
  | p :: l => by rw [putL, AHeap.size_put, putL_size l]
theorem putL_no {H : AHeap} {k : Nat} : ∀ {l : List (Nat × ABlk)}, keyL l k = false → (putL H l).get k = H.get k
  | [], _ => rfl
  | p :: l, h => by
    have h1 : k ≠ p.1 := fun e => by
      have : keyL (p :: l) k = true := keyL_iff.2 ⟨p, by simp, e.symm⟩
      rw [this] at h; cases h
    rw [putL, AHeap.get_put_other _ _ h1]
    refine putL_no ?_
    cases h2 : keyL l k with
    | false => rfl
    | true =>
      obtain ⟨q, h3, h4⟩ := keyL_iff.1 h2
      have : keyL (p :: l) k = true := keyL_iff.2 ⟨q, by simp [h3], h4⟩
      rw [this] at h; cases h
theorem putL_hp {H : AHeap} {s : Nat} (hs : H.size = s) {k : Nat} (hk : k < s) : ∀ {l : List (Nat × ABlk)}, keyL l k = true → (putL H l).get k = (hpOf s l).get k
  | [], h => by cases h
  | p :: l, h => by
    rw [putL, hpOf]
    by_cases e : k = p.1
    · rw [e, AHeap.get_put_same _ _ (by rw [putL_size]; omega), AHeap.get_put_same _ _ (by rw [hpOf_size]; omega)]
    · rw [AHeap.get_put_other _ _ e, AHeap.get_put_other _ _ e]
      refine putL_hp hs hk ?_
      rw [keyL_iff] at h ⊢
      obtain ⟨q, h1, h2⟩ := h
      rcases List.mem_cons.1 h1 with rfl | h1
      · exact absurd h2.symm e
      · exact ⟨q, h1, h2⟩
def allocN (H : AHeap) : Nat → AHeap
  | 0 => H
  | n + 1 => (allocN H n).alloc .dead
theorem allocN_size {H : AHeap} : ∀ n, (allocN H n).size = H.size + n
  | 0 => rfl
  | n + 1 => by rw [allocN, AHeap.size_alloc, allocN_size n]; omega
theorem allocN_old {H : AHeap} {k : Nat} (hk : k < H.size) : ∀ n, (allocN H n).get k = H.get k
  | 0 => rfl
  | n + 1 => by rw [allocN, AHeap.get_alloc_other _ _ (by rw [allocN_size]; omega), allocN_old hk n]
theorem allocN_new {H : AHeap} {k : Nat} (hk : H.size ≤ k) : ∀ n, (allocN H n).get k = .dead
  | 0 => AHeap.get_ge (by show ¬ k < H.size; omega)
  | n + 1 => by
    rw [allocN]
    by_cases e : k = (allocN H n).size
    · rw [e, AHeap.get_alloc_same]
    · rw [AHeap.get_alloc_other _ _ e, allocN_new hk n]
def mixH (H : AHeap) (s' : Nat) (l' : List (Nat × ABlk)) : AHeap := putL (allocN H (s' - H.size)) l'
def Loud.Ok2 (P : Program) (e : Loud) : Prop := e.Ok P ∧ closedE e = true
theorem Loud.framed {e : Loud} (h : e.Ok2 P) {H : AHeap} (hs : Nat.beq e.s H.size = true) (hl : lessL H e.l = true) : SCall P e.f e.args H e.v (mixH H e.s' e.l') e.m := by
  obtain ⟨⟨_, h1⟩, h2⟩ := h
  unfold closedE at h2
  simp only [Bool.and_eq_true,List.all_eq_true] at h2
  obtain ⟨c1, c2, c3, c4⟩ := h2
  have hd : ∀ p ∈ e.l, p.2 ≠ .dead := fun p hp => inBb_alive (c1 p hp).2.1
  have hlt : ∀ p ∈ e.l, p.1 < e.s := fun p hp => Nat.le_of_ble_eq_true (c1 p hp).1
  have hsz : e.s = H.size := Nat.eq_of_beq_eq_true hs
  have hss : e.s ≤ e.s' := Nat.le_of_ble_eq_true c4
  have hms : (allocN H (e.s' - H.size)).size = e.s' := by rw [allocN_size]; omega
  refine SCall.frame h1 (less_of hs hl) (fun x hx => inVb_ok hd hlt 6 x (c2 x hx)) (fun k => ?_) (by unfold mixH; rw [putL_size, hms, hpOf_size]) (fun k hk hdead => ?_) (fun k hk => ?_)
  · rcases hpOf_get e.s e.l k with h3 | ⟨p, h3, _, h5⟩
    · rw [h3]; trivial
    · rw [h5]
      have h6 := (c1 p h3).2.1
      cases hb : p.2 with
      | dead => trivial
      | rw c el o al =>
        rw [hb] at h6
        simp only [inBb,Bool.and_eq_true,List.all_eq_true] at h6
        refine ⟨fun v hv => inVb_ok hd hlt 6 v (h6.1 v hv), fun j hj => ?_⟩
        obtain ⟨q, h7, h8⟩ := keyL_iff.1 (h6.2 j hj)
        exact hp_alive hd (by rw [← h8]; exact hlt q h7) (h6.2 j hj)
      | map es n =>
        rw [hb] at h6
        simp only [inBb,List.all_eq_true,Bool.and_eq_true] at h6
        exact fun en hen => ⟨inVb_ok hd hlt 6 _ (h6 en hen).1, inVb_ok hd hlt 6 _ (h6 en hen).2⟩
      | ro c => rw [hb] at h6; cases h6
      | loop => rw [hb] at h6; cases h6
      | defer => rw [hb] at h6; cases h6
  · rw [hpOf_size] at hk
    have h3 : keyL e.l k = false := by
      cases h4 : keyL e.l k with
      | false => rfl
      | true => exact absurd hdead (hp_alive hd hk h4)
    have h4 : keyL e.l' k = false := by
      cases h5 : keyL e.l' k with
      | false => rfl
      | true =>
        obtain ⟨p, h6, h7⟩ := keyL_iff.1 h5
        have := c3 p h6
        rw [h7, h3] at this
        simp only [Bool.or_eq_true,Bool.not_eq_true',Bool.false_eq_true,or_false] at this
        have hb : Nat.blt k e.s = true := Nat.ble_eq_true_of_le hk
        rw [hb] at this; cases this
    unfold mixH
    rw [putL_no h4, allocN_old (by omega)]
  · rw [hpOf_size] at hk
    unfold mixH
    by_cases hk' : k < e.s'
    · cases h5 : keyL e.l' k with
      | true => exact putL_hp hms hk' h5
      | false =>
        have h6 : ¬ k < e.s := fun h7 => by
          have h8 : keyL e.l k = true := by
            cases h9 : keyL e.l k with
            | true => rfl
            | false => exact absurd (hp_dead h9) (hk h7)
          obtain ⟨p, h10, h11⟩ := keyL_iff.1 h8
          have := (c1 p h10).2.2
          rw [h11, h5] at this
          cases this
        rw [putL_no h5, hp_dead h5, allocN_new (by omega)]
    · rw [AHeap.get_ge (by rw [putL_size, hms]; exact hk'), AHeap.get_ge (by rw [hpOf_size]; exact hk')]
def louds2 (P : Program) : List Loud → Prop
  | [] => True
  | e :: l => e.Ok2 P ∧ louds2 P l
noncomputable def framF (ls : List Loud) (f : FuncId) (args : List Value) (H : AHeap) (no : Option (Bool × Value × AHeap × Nat)) : Option (Bool × Value × AHeap × Nat) := List.rec (motive := fun _ => Option (Bool × Value × AHeap × Nat)) no
  (fun e _ ih => Loud.rec (motive := fun _ => Option (Bool × Value × AHeap × Nat)) (fun f' args' s l v s' l' m => Bool.rec (motive := fun _ => Option (Bool × Value × AHeap × Nat)) ih
    (Bool.rec (motive := fun _ => Option (Bool × Value × AHeap × Nat)) ih (some (false, v, mixH H s' l', m)) (eqL (sameV 6) args' args && (Nat.beq s H.size && lessL H l))) (Nat.beq f' f)) e) ls
theorem framF_ok {f : FuncId} {args : List Value} {H : AHeap} {no : Option (Bool × Value × AHeap × Nat)} {b : Bool} {v : Value} {H' : AHeap} {m : Nat} : ∀ {ls : List Loud}, louds2 P ls → framF ls f args H no = some (b, v, H', m) →
    (b = false ∧ HasFn P f ∧ SCall P f args H v H' m) ∨ no = some (b, v, H', m)
  | [], _, h => .inr h
  | e :: ls, hl, h => by
    have hok := hl.1
    obtain ⟨f', args', s, l, v', s', l', m'⟩ := e
    have h' : Bool.rec (motive := fun _ => Option (Bool × Value × AHeap × Nat)) (framF ls f args H no)
      (Bool.rec (motive := fun _ => Option (Bool × Value × AHeap × Nat)) (framF ls f args H no) (some (false, v', mixH H s' l', m')) (eqL (sameV 6) args' args && (Nat.beq s H.size && lessL H l))) (Nat.beq f' f) = some (b, v, H', m) := h
    rw [boolRec_eq, boolRec_eq] at h'
    cases e1 : Nat.beq f' f
    · rw [e1] at h'; exact framF_ok hl.2 h'
    · rw [e1] at h'
      cases e2 : (eqL (sameV 6) args' args && (Nat.beq s H.size && lessL H l))
      · rw [e2] at h'; exact framF_ok hl.2 h'
      · rw [e2] at h'
        simp only [Bool.and_eq_true] at e2
        have h'' : some (false, v', mixH H s' l', m') = some (b, v, H', m) := h'
        cases h''
        have hf : f' = f := Nat.eq_of_beq_eq_true e1
        subst hf
        have ha := eqL_ok (sameV_ok 6) e2.1
        subst ha
        exact .inl ⟨rfl, hok.1.1, Loud.framed hok e2.2.1 e2.2.2⟩
end Go.Am
/- What parts of a long run lean on. -/
namespace Go.Am
/-- The tables, what is known of calls from parts of heaps, of quiet calls. -/
noncomputable def Tab.knows5 (T : Tab) (ls : List Loud) (qs : List Quiet) : Tab := ⟨T.und, T.inf, T.fn, fun f args H => framF ls f args H (quietsF qs f args H (T.memo f args H)), T.plan⟩
theorem Tab.knows5_fits {T : Tab} {P : Program} (hT : T.Fits P) {ls : List Loud} {qs : List Quiet} (hl : louds2 P ls) (hq : quiets P qs) : (T.knows5 ls qs).Fits P where
  und := hT.und
  inf := hT.inf
  fn := hT.fn
  mixed := hT.mixed
  memo f args H b v H' m h := by
    rcases framF_ok hl h with ⟨rfl, h1, h2⟩ | h
    · exact ⟨h1, h2, fun h => by cases h⟩
    · rcases quietsF_ok hq h with ⟨rfl, rfl, h1, h2⟩ | h
      · exact ⟨h1, h2, fun _ => ⟨rfl, rfl⟩⟩
      · exact hT.memo _ _ _ _ _ _ _ h
theorem ok2 {P : Program} {e : Loud} (h : e.Ok P) (hc : closedE e = true) : e.Ok2 P := ⟨h, hc⟩
abbrev qb0 : Nat × ABlk := (195, (.rw [(ii 500), (ii 0), (ii 100), (ii 3), (ii 0), (ii 100), (ii 1), (ii 0), (ii 100)] 72 true []))
abbrev qb1 : Nat × ABlk := (222, (.rw [(ii 249), (ii 0), (ii 100), (ii 3), (ii 0), (ii 100), (ii 1), (ii 0), (ii 100)] 72 true []))
abbrev qb2 : Nat × ABlk := (249, (.rw [(ii 124), (ii 0), (ii 100), (ii 3), (ii 0), (ii 100), (ii 1), (ii 0), (ii 100)] 72 true []))
abbrev qb3 : Nat × ABlk := (46, (.rw [(ii 5), (ii 0), (ii 100), (ii 3), (ii 0), (ii 100), (ii 1), (ii 20), (ii 100)] 72 false []))
abbrev qb4 : Nat × ABlk := (133, (.rw [(ii 5), (ii 0), (ii 100), (ii 3), (ii 0), (ii 100), (ii 1), (ii 0), (ii 100)] 72 false []))
abbrev qb5 : Nat × ABlk := (276, (.rw [(ii 61), (ii 0), (ii 100), (ii 3), (ii 0), (ii 100), (ii 1), (ii 0), (ii 100)] 72 true []))
abbrev qb6 : Nat × ABlk := (303, (.rw [(ii 30), (ii 0), (ii 100), (ii 3), (ii 0), (ii 100), (ii 1), (ii 0), (ii 100)] 72 true []))
abbrev qb7 : Nat × ABlk := (330, (.rw [(ii 14), (ii 0), (ii 100), (ii 3), (ii 0), (ii 100), (ii 1), (ii 0), (ii 100)] 72 true []))
abbrev qb8 : Nat × ABlk := (46, (.rw [(ii 5), (ii 0), (ii 40), (ii 3), (ii 0), (ii 100), (ii 1), (ii 20), (ii 100)] 72 false []))
abbrev qb9 : Nat × ABlk := (161, (.rw [(ii 4), (ii 0), (ii 100), (ii 3), (ii 0), (ii 100), (ii 1), (ii 0), (ii 100)] 72 true []))
abbrev qb10 : Nat × ABlk := (357, (.rw [(ii 6), (ii 0), (ii 100), (ii 3), (ii 0), (ii 100), (ii 1), (ii 0), (ii 100)] 72 true []))
abbrev qb11 : Nat × ABlk := (384, (.rw [(ii 2), (ii 0), (ii 100), (ii 3), (ii 0), (ii 100), (ii 1), (ii 0), (ii 100)] 72 true []))
abbrev qb12 : Nat × ABlk := (411, (.rw [(ii 4), (ii 0), (ii 100), (ii 3), (ii 0), (ii 100), (ii 1), (ii 0), (ii 100)] 72 true []))
abbrev qb13 : Nat × ABlk := (438, (.rw [(ii 5), (ii 0), (ii 100), (ii 3), (ii 0), (ii 100), (ii 1), (ii 0), (ii 100)] 72 true []))
abbrev qb14 : Nat × ABlk := (162, (.rw [(ii 100), (.slice (some ⟨161, 0, none⟩) 3 18446744073709551619)] 39 false []))
abbrev qb15 : Nat × ABlk := (196, (.rw [(ii 100), (.slice (some ⟨195, 0, none⟩) 3 18446744073709551619)] 39 false []))
abbrev qb16 : Nat × ABlk := (223, (.rw [(ii 100), (.slice (some ⟨222, 0, none⟩) 3 18446744073709551619)] 39 false []))
abbrev qb17 : Nat × ABlk := (250, (.rw [(ii 100), (.slice (some ⟨249, 0, none⟩) 3 18446744073709551619)] 39 false []))
abbrev qb18 : Nat × ABlk := (277, (.rw [(ii 100), (.slice (some ⟨276, 0, none⟩) 3 18446744073709551619)] 39 false []))
abbrev qb19 : Nat × ABlk := (304, (.rw [(ii 100), (.slice (some ⟨303, 0, none⟩) 3 18446744073709551619)] 39 false []))
abbrev qb20 : Nat × ABlk := (331, (.rw [(ii 100), (.slice (some ⟨330, 0, none⟩) 3 18446744073709551619)] 39 false []))
abbrev qb21 : Nat × ABlk := (358, (.rw [(ii 100), (.slice (some ⟨357, 0, none⟩) 3 18446744073709551619)] 39 false []))
abbrev qb22 : Nat × ABlk := (385, (.rw [(ii 100), (.slice (some ⟨384, 0, none⟩) 3 18446744073709551619)] 39 false []))
abbrev qb23 : Nat × ABlk := (412, (.rw [(ii 100), (.slice (some ⟨411, 0, none⟩) 3 18446744073709551619)] 39 false []))
abbrev qb24 : Nat × ABlk := (439, (.rw [(ii 100), (.slice (some ⟨438, 0, none⟩) 3 18446744073709551619)] 39 false []))
abbrev qb25 : Nat × ABlk := (135, (.rw [(ii 100), (.slice (some ⟨133, 0, none⟩) 3 3)] 39 false []))
abbrev qb26 : Nat × ABlk := (49, (.rw [(ii 100), (.slice (some ⟨46, 0, none⟩) 3 3)] 39 false []))
abbrev qb27 : Nat × ABlk := (73, (.rw [(ii 100), (.slice (some ⟨46, 0, none⟩) 3 3)] 39 false []))
abbrev qb28 : Nat × ABlk := (188, (.rw [(ii 0), (ii 100), (ii 20), (ii 80)] 98 false []))
abbrev qb29 : Nat × ABlk := (196, (.rw [(ii 0), (ii 100), (ii 20), (ii 80)] 98 false []))
end Go.Am
