import Derived.Test.YtbofjfjopeaefaaGreatT15
set_option linter.unusedSimpArgs false
set_option linter.unusedVariables false
namespace Go.Am
variable {T : Tab} {P : Program}
def keyL (l : List (Nat × ABlk)) (k : Nat) : Bool := l.any fun p => Nat.beq p.1 k
theorem keyL_iff {l : List (Nat × ABlk)} {k : Nat} : keyL l k = true ↔ ∃ p ∈ l, p.1 = k := by
 unfold keyL
 rw [List.any_eq_true]
 exact ⟨fun ⟨p, h1, h2⟩ => ⟨p, h1, Nat.eq_of_beq_eq_true h2⟩, fun ⟨p, h1, h2⟩ => ⟨p, h1, by rw [h2]; exact Nat.beq_refl k⟩⟩
def inVb (l : List (Nat × ABlk)) : Nat → Value → Bool
 | 0, _ => false
 | n + 1, v => match v with
  | .pointer (some a) => keyL l a.block
  | .slice (some a) _ _ => keyL l a.block
  | .map (some r) => keyL l r
  | .chan _ => false
  | .func fn first captured => (match fn with
   | .yield _ => false
   | _ => true) && (first.toList.all (inVb l n) && captured.toList.all (inVb l n))
  | .iface _ v => inVb l n v
  | .agg cs => cs.toList.all (inVb l n)
  | .tuple vs => vs.toList.all (inVb l n)
  | _ => true
def inBb (l : List (Nat × ABlk)) : ABlk → Bool
 | .rw c _ _ al => c.all (inVb l 6) && al.all (keyL l)
 | .map es _ => es.all fun e => inVb l 6 e.1 && inVb l 6 e.2.1
 | _ => false
def closedE (e : Loud) : Bool :=
 (e.l.all fun p => Nat.blt p.1 e.s && (inBb e.l p.2 && keyL e.l' p.1)) && (e.args.all (inVb e.l 6) && ((e.l'.all fun p => !Nat.blt p.1 e.s || keyL e.l p.1) && Nat.ble e.s e.s'))
theorem hp_alive {s : Nat} : ∀ {l : List (Nat × ABlk)} {k : Nat}, (∀ p ∈ l, p.2 ≠ .dead) → k < s → keyL l k = true → (hpOf s l).get k ≠ .dead
 | [], k, _, _, h => by cases h
 | p :: l, k, hd, hk, h => by
  rw [hpOf]
  by_cases e : k = p.1
  ·rw [e, AHeap.get_put_same _ _ (by rw [hpOf_size]; omega)]
   exact hd p (by simp)
  ·rw [AHeap.get_put_other _ _ e]
   refine hp_alive (fun q hq => hd q (List.mem_cons_of_mem _ hq)) hk ?_
   rw [keyL_iff] at h ⊢
   obtain ⟨q, h1, h2⟩ := h
   rcases List.mem_cons.1 h1 with rfl | h1
   ·exact absurd h2.symm e
   ·exact ⟨q, h1, h2⟩
theorem hp_dead {s : Nat} {l : List (Nat × ABlk)} {k : Nat} (h : keyL l k = false) : (hpOf s l).get k = .dead := by
 rcases hpOf_get s l k with e | ⟨p, h1, h2, _⟩
 ·exact e
 ·have : keyL l k = true := keyL_iff.2 ⟨p, h1, h2⟩
  rw [this] at h; cases h
theorem inVb_ok {s : Nat} {l : List (Nat × ABlk)} (hd : ∀ p ∈ l, p.2 ≠ .dead) (hs : ∀ p ∈ l, p.1 < s) : ∀ (n : Nat) (v : Value), inVb l n v = true → inV (hpOf s l) v := by
 have hk : ∀ k, keyL l k = true → (hpOf s l).get k ≠ .dead := fun k h => by
  obtain ⟨p, h1, h2⟩ := keyL_iff.1 h
  exact hp_alive hd (by rw [← h2]; exact hs p h1) h
 intro n
 induction n with
 | zero => intro v h; cases h
 | succ n ih =>
  intro v h
  cases v with
  | pointer a => cases a with
   | none => simp [inV]
   | some a => simp only [inV]; exact hk _ h
  | slice a x y => cases a with
   | none => simp [inV]
   | some a => simp only [inV]; exact hk _ h
  | map r => cases r with
   | none => simp [inV]
   | some r => simp only [inV]; exact hk _ h
  | chan r => cases h
  | func fn first captured =>
   simp only [inVb,Bool.and_eq_true,List.all_eq_true] at h
   obtain ⟨h1, h2, h3⟩ := h
   simp only [inV]
   refine ⟨fun l' e => (by rw [e] at h1; cases h1), fun v hv => ih v (h2 v (by simpa using hv)), fun v hv => ih v (h3 v (by simpa using hv))⟩
  | iface t v =>
   simp only [inV]
   exact ih v h
  | agg cs =>
   simp only [inVb,List.all_eq_true] at h
   simp only [inV]
   exact fun v hv => ih v (h v (by simpa using hv))
  | tuple cs =>
   simp only [inVb,List.all_eq_true] at h
   simp only [inV]
   exact fun v hv => ih v (h v (by simpa using hv))
  | bool _ => simp [inV]
  | int _ _ => simp [inV]
  | float _ _ => simp [inV]
  | complex _ _ _ => simp [inV]
  | string _ => simp [inV]
  | nilFunc => simp [inV]
  | nilIface => simp [inV]
theorem inBb_alive {l : List (Nat × ABlk)} {b : ABlk} (h : inBb l b = true) : b ≠ .dead := by
 intro e
 subst e
 cases h
def putL (H : AHeap) : List (Nat × ABlk) → AHeap
 | [] => H
 | p :: l => (putL H l).put p.1 p.2
theorem putL_size {H : AHeap} : ∀ l, (putL H l).size = H.size
 | [] => rfl
 | p :: l => by rw [putL, AHeap.size_put, putL_size l]
theorem putL_no {H : AHeap} {k : Nat} : ∀ {l : List (Nat × ABlk)}, keyL l k = false → (putL H l).get k = H.get k
 | [], _ => rfl
 | p :: l, h => by
  have h1 : k ≠ p.1 := fun e => by
   have : keyL (p :: l) k = true := keyL_iff.2 ⟨p, by simp, e.symm⟩
   rw [this] at h; cases h
  rw [putL, AHeap.get_put_other _ _ h1]
  refine putL_no ?_
  cases h2 : keyL l k with
  | false => rfl
  | true =>
   obtain ⟨q, h3, h4⟩ := keyL_iff.1 h2
   have : keyL (p :: l) k = true := keyL_iff.2 ⟨q, by simp [h3], h4⟩
   rw [this] at h; cases h
theorem putL_hp {H : AHeap} {s : Nat} (hs : H.size = s) {k : Nat} (hk : k < s) : ∀ {l : List (Nat × ABlk)}, keyL l k = true → (putL H l).get k = (hpOf s l).get k
 | [], h => by cases h
 | p :: l, h => by
  rw [putL, hpOf]
  by_cases e : k = p.1
  ·rw [e, AHeap.get_put_same _ _ (by rw [putL_size]; omega), AHeap.get_put_same _ _ (by rw [hpOf_size]; omega)]
  ·rw [AHeap.get_put_other _ _ e, AHeap.get_put_other _ _ e]
   refine putL_hp hs hk ?_
   rw [keyL_iff] at h ⊢
   obtain ⟨q, h1, h2⟩ := h
   rcases List.mem_cons.1 h1 with rfl | h1
   ·exact absurd h2.symm e
   ·exact ⟨q, h1, h2⟩
def allocN (H : AHeap) : Nat → AHeap
 | 0 => H
 | n + 1 => (allocN H n).alloc .dead
theorem allocN_size {H : AHeap} : ∀ n, (allocN H n).size = H.size + n
 | 0 => rfl
 | n + 1 => by rw [allocN, AHeap.size_alloc, allocN_size n]; omega
theorem allocN_old {H : AHeap} {k : Nat} (hk : k < H.size) : ∀ n, (allocN H n).get k = H.get k
 | 0 => rfl
 | n + 1 => by rw [allocN, AHeap.get_alloc_other _ _ (by rw [allocN_size]; omega), allocN_old hk n]
theorem allocN_new {H : AHeap} {k : Nat} (hk : H.size ≤ k) : ∀ n, (allocN H n).get k = .dead
 | 0 => AHeap.get_ge (by show ¬ k < H.size; omega)
 | n + 1 => by
  rw [allocN]
  by_cases e : k = (allocN H n).size
  ·rw [e, AHeap.get_alloc_same]
  ·rw [AHeap.get_alloc_other _ _ e, allocN_new hk n]
def mixH (H : AHeap) (s' : Nat) (l' : List (Nat × ABlk)) : AHeap := putL (allocN H (s' - H.size)) l'
def Loud.Ok2 (P : Program) (e : Loud) : Prop := e.Ok P ∧ closedE e = true
theorem Loud.framed {e : Loud} (h : e.Ok2 P) {H : AHeap} (hs : Nat.beq e.s H.size = true) (hl : lessL H e.l = true) : SCall P e.f e.args H e.v (mixH H e.s' e.l') e.m := by
 obtain ⟨⟨_, h1⟩, h2⟩ := h
 unfold closedE at h2
 simp only [Bool.and_eq_true,List.all_eq_true] at h2
 obtain ⟨c1, c2, c3, c4⟩ := h2
 have hd : ∀ p ∈ e.l, p.2 ≠ .dead := fun p hp => inBb_alive (c1 p hp).2.1
 have hlt : ∀ p ∈ e.l, p.1 < e.s := fun p hp => Nat.le_of_ble_eq_true (c1 p hp).1
 have hsz : e.s = H.size := Nat.eq_of_beq_eq_true hs
 have hss : e.s ≤ e.s' := Nat.le_of_ble_eq_true c4
 have hms : (allocN H (e.s' - H.size)).size = e.s' := by rw [allocN_size]; omega
 refine SCall.frame h1 (less_of hs hl) (fun x hx => inVb_ok hd hlt 6 x (c2 x hx)) (fun k => ?_) (by unfold mixH; rw [putL_size, hms, hpOf_size]) (fun k hk hdead => ?_) (fun k hk => ?_)
 ·rcases hpOf_get e.s e.l k with h3 | ⟨p, h3, _, h5⟩
  ·rw [h3]; trivial
  ·rw [h5]
   have h6 := (c1 p h3).2.1
   cases hb : p.2 with
   | dead => trivial
   | rw c el o al =>
    rw [hb] at h6
    simp only [inBb,Bool.and_eq_true,List.all_eq_true] at h6
    refine ⟨fun v hv => inVb_ok hd hlt 6 v (h6.1 v hv), fun j hj => ?_⟩
    obtain ⟨q, h7, h8⟩ := keyL_iff.1 (h6.2 j hj)
    exact hp_alive hd (by rw [← h8]; exact hlt q h7) (h6.2 j hj)
   | map es n =>
    rw [hb] at h6
    simp only [inBb,List.all_eq_true,Bool.and_eq_true] at h6
    exact fun en hen => ⟨inVb_ok hd hlt 6 _ (h6 en hen).1, inVb_ok hd hlt 6 _ (h6 en hen).2⟩
   | ro c => rw [hb] at h6; cases h6
   | loop => rw [hb] at h6; cases h6
   | defer => rw [hb] at h6; cases h6
 ·rw [hpOf_size] at hk
  have h3 : keyL e.l k = false := by
   cases h4 : keyL e.l k with
   | false => rfl
   | true => exact absurd hdead (hp_alive hd hk h4)
  have h4 : keyL e.l' k = false := by
   cases h5 : keyL e.l' k with
   | false => rfl
   | true =>
    obtain ⟨p, h6, h7⟩ := keyL_iff.1 h5
    have := c3 p h6
    rw [h7, h3] at this
    simp only [Bool.or_eq_true,Bool.not_eq_true',Bool.false_eq_true,or_false] at this
    have hb : Nat.blt k e.s = true := Nat.ble_eq_true_of_le hk
    rw [hb] at this; cases this
  unfold mixH
  rw [putL_no h4, allocN_old (by omega)]
 ·rw [hpOf_size] at hk
  unfold mixH
  by_cases hk' : k < e.s'
  ·cases h5 : keyL e.l' k with
   | true => exact putL_hp hms hk' h5
   | false =>
    have h6 : ¬ k < e.s := fun h7 => by
     have h8 : keyL e.l k = true := by
      cases h9 : keyL e.l k with
      | true => rfl
      | false => exact absurd (hp_dead h9) (hk h7)
     obtain ⟨p, h10, h11⟩ := keyL_iff.1 h8
     have := (c1 p h10).2.2
     rw [h11, h5] at this
     cases this
    rw [putL_no h5, hp_dead h5, allocN_new (by omega)]
  ·rw [AHeap.get_ge (by rw [putL_size, hms]; exact hk'), AHeap.get_ge (by rw [hpOf_size]; exact hk')]
def louds2 (P : Program) : List Loud → Prop
 | [] => True
 | e :: l => e.Ok2 P ∧ louds2 P l
noncomputable def framF (ls : List Loud) (f : FuncId) (args : List Value) (H : AHeap) (no : Option (Bool × Value × AHeap × Nat)) : Option (Bool × Value × AHeap × Nat) := List.rec (motive := fun _ => Option (Bool × Value × AHeap × Nat)) no
 (fun e _ ih => Loud.rec (motive := fun _ => Option (Bool × Value × AHeap × Nat)) (fun f' args' s l v s' l' m => Bool.rec (motive := fun _ => Option (Bool × Value × AHeap × Nat)) ih
  (Bool.rec (motive := fun _ => Option (Bool × Value × AHeap × Nat)) ih (some (false, v, mixH H s' l', m)) (eqL (sameV 6) args' args && (Nat.beq s H.size && lessL H l))) (Nat.beq f' f)) e) ls
theorem framF_ok {f : FuncId} {args : List Value} {H : AHeap} {no : Option (Bool × Value × AHeap × Nat)} {b : Bool} {v : Value} {H' : AHeap} {m : Nat} : ∀ {ls : List Loud}, louds2 P ls → framF ls f args H no = some (b, v, H', m) →
  (b = false ∧ HasFn P f ∧ SCall P f args H v H' m) ∨ no = some (b, v, H', m)
 | [], _, h => .inr h
 | e :: ls, hl, h => by
  have hok := hl.1
  obtain ⟨f', args', s, l, v', s', l', m'⟩ := e
  have h' : Bool.rec (motive := fun _ => Option (Bool × Value × AHeap × Nat)) (framF ls f args H no)
   (Bool.rec (motive := fun _ => Option (Bool × Value × AHeap × Nat)) (framF ls f args H no) (some (false, v', mixH H s' l', m')) (eqL (sameV 6) args' args && (Nat.beq s H.size && lessL H l))) (Nat.beq f' f) = some (b, v, H', m) := h
  rw [boolRec_eq, boolRec_eq] at h'
  cases e1 : Nat.beq f' f
  ·rw [e1] at h'; exact framF_ok hl.2 h'
  ·rw [e1] at h'
   cases e2 : (eqL (sameV 6) args' args && (Nat.beq s H.size && lessL H l))
   ·rw [e2] at h'; exact framF_ok hl.2 h'
   ·rw [e2] at h'
    simp only [Bool.and_eq_true] at e2
    have h'' : some (false, v', mixH H s' l', m') = some (b, v, H', m) := h'
    cases h''
    have hf : f' = f := Nat.eq_of_beq_eq_true e1
    subst hf
    have ha := eqL_ok (sameV_ok 6) e2.1
    subst ha
    exact .inl ⟨rfl, hok.1.1, Loud.framed hok e2.2.1 e2.2.2⟩
end Go.Am
namespace Go.Am
open Go.Proofs
def decI : List Value → Option (List Int)
 | [] => some []
 | .int .i64 n :: l => match decI l with
  | some t => some (n :: t)
  | none => none
 | _ => none
theorem decI_ok : ∀ {l : List Value} {t : List Int}, decI l = some t → l = tv t
 | [], t, h => by cases h; rfl
 | .int .i64 n :: l, t, h => by
  rw [decI] at h
  split at h
  ·rename_i t' h'
   cases h
   rw [decI_ok h']; rfl
  ·cases h
 | .int .i8 n :: l, t, h => by cases h
 | .int .i16 n :: l, t, h => by cases h
 | .int .i32 n :: l, t, h => by cases h
 | .int .u8 n :: l, t, h => by cases h
 | .int .u16 n :: l, t, h => by cases h
 | .int .u32 n :: l, t, h => by cases h
 | .int .u64 n :: l, t, h => by cases h
 | .bool b :: l, t, h => by cases h
def decPk : List Int → Option (List Pk)
 | [] => some []
 | s :: w :: o :: f :: l => match decPk l with
  | some ps => some (⟨s, w, o, f⟩ :: ps)
  | none => none
 | _ => none
theorem decPk_ok : ∀ {t : List Int} {ps : List Pk}, decPk t = some ps → tv t = pkE.fl ps
 | [], ps, h => by cases h; rfl
 | s :: w :: o :: f :: l, ps, h => by
  rw [decPk] at h
  split at h
  ·rename_i t' h'
   cases h
   show Value.int .i64 s :: .int .i64 w :: .int .i64 o :: .int .i64 f :: tv l = _
   rw [decPk_ok h']; rfl
  ·cases h
def decGd : List Int → Option (List Gd)
 | [] => some []
 | f :: p :: l => match decGd l with
  | some ps => some (⟨f, p⟩ :: ps)
  | none => none
 | _ => none
theorem decGd_ok : ∀ {t : List Int} {ps : List Gd}, decGd t = some ps → tv t = gdE.fl ps
 | [], ps, h => by cases h; rfl
 | f :: p :: l, ps, h => by
  rw [decGd] at h
  split at h
  ·rename_i t' h'
   cases h
   show Value.int .i64 f :: .int .i64 p :: tv l = _
   rw [decGd_ok h']; rfl
  ·cases h
def Pk.okB (p : Pk) : Bool := (decide (0 ≤ p.s) && decide (p.s ≤ 6)) && ((decide (0 ≤ p.w) && decide (p.w ≤ p.s)) && ((decide (0 ≤ p.o) && decide (p.o ≤ p.s)) && (decide (0 ≤ p.f) && decide (p.f ≤ p.o))))
theorem Pk.okB_ok {p : Pk} (h : p.okB = true) : p.Ok := by
 simp only [Pk.okB,Bool.and_eq_true,decide_eq_true_eq] at h
 exact ⟨h.1, h.2.1, h.2.2.1, h.2.2.2⟩
def Gd.okB (g : Gd) : Bool := (decide (0 ≤ g.fo) && decide (g.fo ≤ 100)) && (decide (0 ≤ g.pr) && decide (g.pr ≤ 100))
theorem Gd.okB_ok {g : Gd} (h : g.okB = true) : g.Ok := by
 simp only [Gd.okB,Bool.and_eq_true,decide_eq_true_eq] at h
 exact ⟨h.1, h.2⟩
def sackB (n : Int) : Bool := decide (0 ≤ n) && decide (n ≤ 6)
def rowI (H : AHeap) (a : Option Addr) (n : Nat) : Option (List Int) := match a with
 | some a => match a.spot, cellsOf (H.get a.block) with
  | none, some c => bif Nat.blt a.block H.size && Nat.beq ((c.drop a.off).take n).length n then decI ((c.drop a.off).take n) else none
  | _, _ => none
 | none => none
theorem rowI_ok {α : Type} {E : Enc α} {H : AHeap} {a : Option Addr} {l : List α} {t : List Int} (h : rowI H a (l.length * E.z) = some t) (he : tv t = E.fl l) : Rw E H a l := by
 unfold rowI at h
 split at h
 ·rename_i a
  split at h
  ·rename_i c hs hc
   cases hb : (Nat.blt a.block H.size && Nat.beq ((c.drop a.off).take (l.length * E.z)).length (l.length * E.z))
   ·rw [hb] at h; cases h
   ·rw [hb, cond_true] at h
    simp only [Bool.and_eq_true] at hb
    obtain ⟨b, o, s⟩ := a
    simp only at hs hc hb h
    subst hs
    exact ⟨fun _ => ⟨b, o, c, rfl, by have h1 := hb.1; simp [Nat.blt] at h1; omega, hc, by rw [decI_ok h, he]⟩⟩
  ·cases h
 ·cases h
theorem rowI_len {H : AHeap} {a : Option Addr} {n : Nat} {t : List Int} (h : rowI H a n = some t) : t.length = n := by
 unfold rowI at h
 split at h
 ·rename_i a
  split at h
  ·rename_i c hs hc
   cases hb : (Nat.blt a.block H.size && Nat.beq ((c.drop a.off).take n).length n)
   ·rw [hb] at h; cases h
   ·rw [hb, cond_true] at h
    simp only [Bool.and_eq_true] at hb
    have := decI_ok h
    have h2 := Nat.eq_of_beq_eq_true hb.2
    rw [this, tv_len] at h2
    exact h2
  ·cases h
 ·cases h
def work4 (args : List Value) (H : AHeap) : Option (List Pk × List Int × Value) := match args with
 | [.agg w, .agg m] => match w.toList with
  | [.slice a n cap, g, lo, mp] => bif Nat.ble n 4 then match rowI H a (n * 4), decI m.toList with
    | some t, some ms => match decPk t with
     | some ps => bif (ps.all Pk.okB && (Nat.beq ms.length 4 && ms.all sackB)) && (sameV 5 g g && (sameV 5 lo lo && sameV 5 mp mp)) then some (ps, ms, g) else none
     | none => none
    | _, _ => none
   else none
  | _ => none
 | _ => none
structure Work4 (args : List Value) (H : AHeap) (ps : List Pk) (ms : List Int) (g : Value) : Prop where
 ex : ∃ a cap lo mp, args = [.agg ⟨[.slice a ps.length cap, g, lo, mp]⟩, .agg ⟨tv ms⟩] ∧ Rw pkE H a ps ∧ sameV 5 lo lo = true ∧ sameV 5 mp mp = true
 pl : ps.length ≤ 4
 pk : ∀ p ∈ ps, p.Ok
 ml : ms.length = 4
 mb : ∀ n ∈ ms, 0 ≤ n ∧ n ≤ 6
 sg : sameV 5 g g = true
theorem work4_ok {args : List Value} {H : AHeap} {ps : List Pk} {ms : List Int} {g : Value} (h : work4 args H = some (ps, ms, g)) : Work4 args H ps ms g := by
 unfold work4 at h
 split at h
 ·rename_i w m
  split at h
  ·rename_i a n cap g' lo mp hw
   cases hn : Nat.ble n 4
   ·rw [hn] at h; cases h
   ·rw [hn, cond_true] at h
    split at h
    ·rename_i t ms' ht hm
     split at h
     ·rename_i ps' hps
      cases hb : (ps'.all Pk.okB && (Nat.beq ms'.length 4 && ms'.all sackB)) && (sameV 5 g' g' && (sameV 5 lo lo && sameV 5 mp mp))
      ·rw [hb] at h; cases h
      ·rw [hb, cond_true] at h
       cases h
       simp only [Bool.and_eq_true,List.all_eq_true] at hb
       obtain ⟨⟨h1, h2, h3⟩, h4, h5, h6⟩ := hb
       have hd := decPk_ok hps
       have hl : n = ps.length := by
        have e1 := rowI_len ht
        have e2 := congrArg List.length hd
        rw [tv_len, fl_length, e1] at e2
        rw [show pkE.z = 4 from rfl] at e2
        omega
       subst hl
       obtain ⟨w⟩ := w
       obtain ⟨m⟩ := m
       simp only at hw hm
       subst hw
       exact ⟨⟨a, cap, lo, mp, by rw [← decI_ok hm], rowI_ok (E := pkE) ht hd, h5, h6⟩, Nat.le_of_ble_eq_true hn, fun p hp => Pk.okB_ok (h1 p hp), Nat.eq_of_beq_eq_true h2, fun n hn => by have := h3 n hn; simpa [sackB] using this, h4⟩
     ·cases h
    ·cases h
  ·cases h
 ·cases h
def nat120 (args : List Value) (H : AHeap) : Option (Bool × Value × AHeap × Nat) := match work4 args H with
 | some (ps, ms, _) => some (true, .agg ⟨[.int .i64 (isum ms), .int .i64 (isum (fo false ps ms))]⟩, H, H.size)
 | none => none
def nat92 (args : List Value) (H : AHeap) : Option (Bool × Value × AHeap × Nat) := match work4 args H with
 | some (ps, ms, .slice a n _) => bif Nat.ble n 4 then match rowI H a (n * 2) with
   | some t => match decGd t with
    | some gs => bif gs.all Gd.okB then some (true, .agg ⟨(grd ps gs ms).enc⟩, H, H.size) else none
    | none => none
   | none => none
  else none
 | _ => none
theorem nat120_ok {args : List Value} {H : AHeap} {r : Bool × Value × AHeap × Nat} {N : Nat} (h : nat120 args H = some r) : acall tabA (aexec tabA Tryz.prog (N + 400)) 142 args H = some r := by
 unfold nat120 at h
 split at h
 ·rename_i ps ms g hw
  cases h
  obtain ⟨⟨a, cap, lo, mp, rfl, h1, h2, h3⟩, h4, h5, h6, h7, h8⟩ := work4_ok hw
  exact c120 h1 h4 h5 h6 h7 h8 h2 h3
 ·cases h
theorem nat92_ok {args : List Value} {H : AHeap} {r : Bool × Value × AHeap × Nat} {N : Nat} (h : nat92 args H = some r) : acall tabA (aexec tabA Tryz.prog (N + 600)) 75 args H = some r := by
 unfold nat92 at h
 split at h
 ·rename_i ps ms a' n cap' hw
  cases hn : Nat.ble n 4
  ·rw [hn] at h; cases h
  ·rw [hn, cond_true] at h
   split at h
   ·rename_i t ht
    split at h
    ·rename_i gs hg
     cases hb : gs.all Gd.okB
     ·rw [hb] at h; cases h
     ·rw [hb, cond_true] at h
      cases h
      rw [List.all_eq_true] at hb
      have hd := decGd_ok hg
      have hl : n = gs.length := by
       have e1 := rowI_len ht
       have e2 := congrArg List.length hd
       rw [tv_len, fl_length, e1] at e2
       rw [show gdE.z = 2 from rfl] at e2
       omega
      subst hl
      obtain ⟨⟨a, cap, lo, mp, rfl, h1, h2, h3⟩, h4, h5, h6, h7, h8⟩ := work4_ok hw
      exact c92 h1 h4 h5 (rowI_ok (E := gdE) ht hd) (Nat.le_of_ble_eq_true hn) (fun g hg => Gd.okB_ok (hb g hg)) h6 h7 h2 h3
    ·cases h
   ·cases h
 ·cases h
def sumB (n : Int) : Bool := decide (0 ≤ n) && decide (n ≤ 1000000)
def nat76 (args : List Value) (H : AHeap) : Option (Bool × Value × AHeap × Nat) := match args with
 | [.agg m] => match decI m.toList with
  | some ms => bif Nat.beq ms.length 4 && ms.all sumB then some (true, .int .i64 (isum ms), H, H.size) else none
  | none => none
 | _ => none
theorem nat76_ok {args : List Value} {H : AHeap} {r : Bool × Value × AHeap × Nat} {N : Nat} (h : nat76 args H = some r) : acall tabA (aexec tabA Tryz.prog (N + 200)) 132 args H = some r := by
 unfold nat76 at h
 split at h
 ·rename_i m
  split at h
  ·rename_i ms hm
   cases hb : (Nat.beq ms.length 4 && ms.all sumB)
   ·rw [hb] at h; cases h
   ·rw [hb, cond_true] at h
    cases h
    simp only [Bool.and_eq_true,List.all_eq_true] at hb
    obtain ⟨m⟩ := m
    simp only at hm
    rw [decI_ok hm]
    exact c76 (Nat.eq_of_beq_eq_true hb.1) fun x hx => by have := hb.2 x hx; simpa [sumB] using this
  ·cases h
 ·cases h
def natM (f : FuncId) (args : List Value) (H : AHeap) : Option (Bool × Value × AHeap × Nat) :=
 bif Nat.beq f 142 then nat120 args H else bif Nat.beq f 75 then nat92 args H else bif Nat.beq f 132 then nat76 args H else none
theorem natM_ok {f : FuncId} {args : List Value} {H : AHeap} {r : Bool × Value × AHeap × Nat} (h : natM f args H = some r) : ∃ N, acall tabA (aexec tabA Tryz.prog N) f args H = some r := by
 unfold natM at h
 cases h1 : Nat.beq f 142
 ·rw [h1, cond_false] at h
  cases h2 : Nat.beq f 75
  ·rw [h2, cond_false] at h
   cases h3 : Nat.beq f 132
   ·rw [h3] at h; cases h
   ·rw [h3, cond_true] at h
    rw [Nat.eq_of_beq_eq_true h3]
    exact ⟨0 + 200, nat76_ok h⟩
  ·rw [h2, cond_true] at h
   rw [Nat.eq_of_beq_eq_true h2]
   exact ⟨0 + 600, nat92_ok h⟩
 ·rw [h1, cond_true] at h
  rw [Nat.eq_of_beq_eq_true h1]
  exact ⟨0 + 400, nat120_ok h⟩
noncomputable def tabN : Tab := ⟨tab.und, tab.inf, tab.fn, natM, tab.plan⟩
theorem tabN_fits : tabN.Fits Tryz.prog where
 und := tab_fits.und
 inf := tab_fits.inf
 fn := tab_fits.fn
 mixed := tab_fits.mixed
 memo f args H b v H' m h := by
  obtain ⟨N, h⟩ := natM_ok h
  obtain ⟨⟨fn, c, hc⟩, h2, h3⟩ := acall_ok tabA_fits (aexec_ok tabA_fits N).1 h
  exact ⟨⟨fn, c, hc.1, hc.2, hc.3⟩, h2, h3⟩
noncomputable def Tab.knows4 (T : Tab) (ks ls : List Loud) (qs : List Quiet) : Tab := ⟨T.und, T.inf, T.fn, fun f args H => loudF ks f args H (framF ls f args H (quietsF qs f args H (T.memo f args H))), T.plan⟩
theorem Tab.knows4_fits {T : Tab} {P : Program} (hT : T.Fits P) {ks ls : List Loud} {qs : List Quiet} (hk : louds P ks) (hl : louds2 P ls) (hq : quiets P qs) : (T.knows4 ks ls qs).Fits P where
 und := hT.und
 inf := hT.inf
 fn := hT.fn
 mixed := hT.mixed
 memo f args H b v H' m h := by
  rcases loudF_ok hk h with ⟨rfl, h1, h2⟩ | h
  ·exact ⟨h1, h2, fun h => by cases h⟩
  ·rcases framF_ok hl h with ⟨rfl, h1, h2⟩ | h
   ·exact ⟨h1, h2, fun h => by cases h⟩
   ·rcases quietsF_ok hq h with ⟨rfl, rfl, h1, h2⟩ | h
    ·exact ⟨h1, h2, fun _ => ⟨rfl, rfl⟩⟩
    ·exact hT.memo _ _ _ _ _ _ _ h
theorem ok2 {P : Program} {e : Loud} (h : e.Ok P) (hc : closedE e = true) : e.Ok2 P := ⟨h, hc⟩
end Go.Am
namespace Go.Am
open Go.Proofs
variable {T : Tab} {P : Program} {N L : Nat} {H : AHeap} {Q : Bool → Value → AHeap → Prop}
theorem pureRun_bind {α β : Type} (P : Program) (s : Sem α) (f : α → Sem β) : pureRun P (s >>= f) = (pureRun P s).bind fun a => pureRun P (f a) := by
 show pureRun P (Sem.bind s f) = _
 induction s with
 | pure a => rfl
 | program k ih => simp only [Sem.bind,pureRun]; exact ih P
 | _ => rfl
theorem prI {n : Nat} {a b : Int} : pureRun Tryz.prog (Op.equalIn (n + 1) 3 (.int .i64 a) (.int .i64 b)) = some (a == b) := by kernel_rfl
theorem prG : pureRun Tryz.prog program = some Tryz.prog := rfl
theorem prPure {α : Type} {P : Program} (a : α) : pureRun P (pure a : Sem α) = some a := rfl
theorem prH : pureRun Tryz.prog (underlying 120) = some (.array 4 3) := by kernel_rfl
theorem prZ : pureRun Tryz.prog (sizeOf 3) = some 1 := by kernel_rfl
section
variable {a b c d : Int}
theorem pr0 : pureRun Tryz.prog (Go.part 3 ⟨[.int .i64 a, .int .i64 b, .int .i64 c, .int .i64 d]⟩ 0) = some (.int .i64 a) := by kernel_rfl
theorem pr1 : pureRun Tryz.prog (Go.part 3 ⟨[.int .i64 a, .int .i64 b, .int .i64 c, .int .i64 d]⟩ 1) = some (.int .i64 b) := by kernel_rfl
theorem pr2 : pureRun Tryz.prog (Go.part 3 ⟨[.int .i64 a, .int .i64 b, .int .i64 c, .int .i64 d]⟩ 2) = some (.int .i64 c) := by kernel_rfl
theorem pr3 : pureRun Tryz.prog (Go.part 3 ⟨[.int .i64 a, .int .i64 b, .int .i64 c, .int .i64 d]⟩ 3) = some (.int .i64 d) := by kernel_rfl
end
theorem eq119 {a b c d a' b' c' d' : Int} : pureRun Tryz.prog (Op.equal 120 (.agg ⟨[.int .i64 a, .int .i64 b, .int .i64 c, .int .i64 d]⟩) (.agg ⟨[.int .i64 a', .int .i64 b', .int .i64 c', .int .i64 d']⟩)) = some (decide ([a, b, c, d] = [a', b', c', d'])) := by
 show pureRun Tryz.prog (Op.equalIn (9998 + 1 + 1) 120 _ _) = _
 unfold Op.equalIn
 rw [pureRun_bind, prH]
 simp only [Option.bind_some,pureRun_bind,prZ]
 by_cases h0 : a = a'
 ·by_cases h1 : b = b'
  ·by_cases h2 : c = c'
   ·by_cases h3 : d = d'
    ·subst h0 h1 h2 h3
     simp [prPure, pureRun_bind, pr0, pr1, pr2, pr3, prI, List.range']
    ·subst h0 h1 h2
     simp [prPure, pureRun_bind, pr0, pr1, pr2, pr3, prI, List.range', h3]
   ·subst h0 h1
    simp [prPure, pureRun_bind, pr0, pr1, pr2, pr3, prI, List.range', h2]
  ·subst h0
   simp [prPure, pureRun_bind, pr0, pr1, pr2, pr3, prI, List.range', h1]
 ·simp [prPure, pureRun_bind, pr0, pr1, pr2, pr3, prI, List.range', h0]
theorem ck119 {em : Bool} {a b c d : Int} : pureRun Tryz.prog (Instr.checkKey em 10000 120 (.agg ⟨[.int .i64 a, .int .i64 b, .int .i64 c, .int .i64 d]⟩)) = some () := by
 cases em <;> kernel_rfl
def nfind (a b c d : Int) : List (Value × Value × Nat) → Option (Option Int)
 | [] => some none
 | e :: es => match e.1 with
  | .agg cs => match cs.toList with
   | [.int .i64 a', .int .i64 b', .int .i64 c', .int .i64 d'] => bif decide (a = a') && (decide (b = b') && (decide (c = c') && decide (d = d'))) then (match e.2.1 with
     | .int .i64 n => some (some n)
     | _ => none) else nfind a b c d es
   | _ => none
  | _ => none
theorem nfind_ok {a b c d : Int} : ∀ {es : List (Value × Value × Nat)} {q : Option Int} (i : Nat), nfind a b c d es = some q → ∃ j, aFind Tryz.prog 120 (.agg ⟨tv [a, b, c, d]⟩) es i = some (q.map fun n => (j, .int .i64 n))
 | [], q, i, h => by cases h; exact ⟨0, rfl⟩
 | e :: es, q, i, h => by
  obtain ⟨k, v, w⟩ := e
  unfold nfind at h
  split at h
  ·rename_i cs hk
   split at h
   ·rename_i a' b' c' d' hcs
    obtain ⟨cs⟩ := cs
    simp only at hk hcs
    subst hcs hk
    have hg : gr (.agg ⟨[.int .i64 a', .int .i64 b', .int .i64 c', .int .i64 d']⟩) = true := rfl
    have he : pureRun Tryz.prog (Op.equal 120 (.agg ⟨tv [a, b, c, d]⟩) (.agg ⟨[.int .i64 a', .int .i64 b', .int .i64 c', .int .i64 d']⟩)) = some (decide ([a, b, c, d] = [a', b', c', d'])) := eq119
    have hd : decide ([a, b, c, d] = [a', b', c', d']) = (decide (a = a') && (decide (b = b') && (decide (c = c') && decide (d = d')))) := by
     rw [Bool.eq_iff_iff]
     simp
    unfold aFind
    rw [hg, cond_true, he, hd]
    cases hb : (decide (a = a') && (decide (b = b') && (decide (c = c') && decide (d = d'))))
    ·rw [hb, cond_false] at h
     exact nfind_ok (i + 1) h
    ·rw [hb, cond_true] at h
     split at h
     ·rename_i n hv
      simp only at hv
      subst hv
      cases h
      exact ⟨i, rfl⟩
     ·cases h
   ·cases h
  ·cases h
theorem und119 : tabA.und 120 = some (.array 4 3) := by kernel_rfl
theorem und122 : tabA.und 114 = some (.map 120 3) := by kernel_rfl
theorem nfind_key {a b c d : Int} {es : List (Value × Value × Nat)} {q : Option Int} (h : nfind a b c d es = some q) : ∃ j, aFindKey tabA Tryz.prog 120 (.agg ⟨tv [a, b, c, d]⟩) es = some (q.map fun n => (j, .int .i64 n)) := by
 unfold aFindKey
 rw [und119]
 cases es with
 | nil => cases h; exact ⟨0, rfl⟩
 | cons e es =>
  have : aFindNow (.array 4 3) (.agg ⟨tv [a, b, c, d]⟩) (e :: es) 0 = none := rfl
  simp only [this]
  exact nfind_ok 0 h
theorem inf3 : ∃ i z, tabA.inf 3 = some i ∧ i.zero = some z ∧ z = .int .i64 0 := ⟨Tryz.t3, .int .i64 0, by kernel_rfl, by kernel_rfl, rfl⟩
theorem ckTv {em : Bool} {s : List Int} (h : s.length = 4) : pureRun Tryz.prog (Instr.checkKey em 10000 120 (.agg ⟨tv s⟩)) = some () := by
 match s, h with
 | [a, b, c, d], _ => exact ck119
section
variable {ex : Exec} {t : Operand → Option Value} {x ix y : Operand} {k j : Nat} {s : List Int} {es : List (Value × Value × Nat)} {clock : Nat}
theorem A_lookN {q : Option Int} (hx : t x = some (.map (some k))) (hi : t ix = some (.agg ⟨tv s⟩)) (hb : H.get k = .map es clock) (hs4 : s.length = 4) (hk : aFindKey tabA Tryz.prog 120 (.agg ⟨tv s⟩) es = some (q.map fun n => (j, .int .i64 n))) (hL : L ≤ H.size) (hq : Q true (.tuple ⟨[.int .i64 (q.getD 0), .bool q.isSome]⟩) H) :
  A tabA Tryz.prog ex t H L (.lookup 114 x ix true) Q := by
 obtain ⟨i, z, z1, z2, z3⟩ := inf3
 have hgz : gr z = true := by rw [z3]; rfl
 unfold A
 show (match still (aLookup tabA Tryz.prog t H 114 x ix true) with
  | some (b, v, H', m) => L ≤ m ∧ Q b v H'
  | none => False)
 have hgk : gr (.agg ⟨tv s⟩) = true := gr_tv _
 unfold aLookup
 simp only [und122,hx,hi,aMapOf,hb,hgk,cond_true,ckTv hs4,hk]
 cases q with
 | none =>
  simp only [Option.map_none,z1,z2,hgz,cond_true]
  exact ⟨hL, by rw [z3]; exact hq⟩
 | some n => exact ⟨hL, hq⟩
theorem A_updN {n : Int} (hx : t x = some (.map (some k))) (hi : t ix = some (.agg ⟨tv s⟩)) (hy : t y = some (.int .i64 n)) (hb : H.get k = .map es clock) (hs4 : s.length = 4) (hk : aFindKey tabA Tryz.prog 120 (.agg ⟨tv s⟩) es = some none) (hL : L ≤ k) (hq : Q false undef (H.put k (.map (es ++ [(.agg ⟨tv s⟩, .int .i64 n, clock)]) (clock + 1)))) :
  A tabA Tryz.prog ex t H L (.mapUpdate 114 x ix y) Q := by
 unfold A
 show (match moves (aUpdate tabA Tryz.prog t H 114 x ix y) with
  | some (b, v, H', m) => L ≤ m ∧ Q b v H'
  | none => False)
 have hgk : gr (.agg ⟨tv s⟩) = true := gr_tv _
 unfold aUpdate
 simp only [und122,hx,hi,hy,hb,hgk,cond_true,ckTv hs4,hk]
 exact ⟨hL, hq⟩
end
end Go.Am
namespace Go.Am
open Go.Proofs
variable {T : Tab} {P : Program} {N L : Nat} {H : AHeap} {Q : Bool → Value → AHeap → Prop}
theorem fn_77 : tabA.fn 77 = some Tryz.f77 := by kernel_rfl
theorem st_faS_116_1 : faS tabA 116 1 = some 3 := by kernel_rfl
theorem st_ldS_114 : ldS tabA 114 = some 0 := by kernel_rfl
theorem tabA_fr : tabA.MemoFr := by
 intro f args H b v H' m h
 cases h
def flK (v : Value) (H : AHeap) (L : Nat) (Q : Bool → Value → AHeap → Prop) (_ : Tag Q := .mk) : Prop := match still (aField tabA (fun _ => some v) H 78 (.tmp 0) 1) with
 | some (b, v, H', m) => L ≤ m ∧ Q b v H'
 | none => False
theorem A_fld {ex : Exec} {t : Operand → Option Value} {x : Operand} : A tabA Tryz.prog ex t H L (.field 78 x 1) Q = optK (t x) fun v => flK v H L Q := by
 unfold A
 show (match still (aField tabA t H 78 x 1) with
  | some (b, v, H', m) => L ≤ m ∧ Q b v H'
  | none => False) = _
 cases hs : t x with
 | none =>
  have : aField tabA t H 78 x 1 = none := by unfold aField; rw [hs]
  rw [this]; rfl
 | some v =>
  have : aField tabA t H 78 x 1 = aField tabA (fun _ => some v) H 78 (.tmp 0) 1 := by unfold aField; rw [hs]
  rw [this]; rfl
theorem flK_of {u w : Int} : flK (.agg ⟨[.int .i64 u, .int .i64 w]⟩) H L Q = andK (L ≤ H.size) (Q true (.int .i64 w) H) := by
 have : aField tabA (fun _ => some (.agg ⟨[.int .i64 u, .int .i64 w]⟩)) H 78 (.tmp 0) 1 = some (.int .i64 w, H, H.size) := by kernel_rfl
 unfold flK
 rw [this]; rfl
theorem grd_ok {ps : List Pk} {gs : List Gd} {m : List Int} (h : ∀ g ∈ gs, g.Ok) : 0 ≤ (grd ps gs m).pr ∧ (grd ps gs m).pr ≤ 100 := by
 unfold grd
 split
 ·rename_i g hg
  exact (h g (List.mem_of_find?_eq_some hg)).p
 ·exact ⟨by show (0 : Int) ≤ 0; omega, by show (0 : Int) ≤ 100; omega⟩
section
variable {a a' : Option Addr} {cap cap' k clock : Nat} {ps : List Pk} {gs : List Gd} {m : List Int} {lo : Value} {es : List (Value × Value × Nat)} {n : Int} {j : Nat}
theorem sv_map {n k : Nat} : sameV (n + 1) (.map (some k)) (.map (some k)) = true := by simp [sameV]
theorem c93k (hm : m.length = 4) (hb : H.get k = .map es clock) (hk : k < H.size) (hf : aFindKey tabA Tryz.prog 120 (.agg ⟨tv m⟩) es = some (some (j, .int .i64 n))) :
  acall tabA (aexec tabA Tryz.prog (N + 800)) 77 [.agg ⟨[.slice a ps.length cap, .slice a' gs.length cap', lo, .map (some k)]⟩, .agg ⟨tv m⟩] H = some (true, .int .i64 n, H, H.size) := by
 refine call_quiet (k := 28) (rs := [.tmp 4]) rfl fn_77 rfl rfl rfl ?_ rfl
 have hmp : part (tv m) 0 5 = some (.agg ⟨tv m⟩) := part_tv hm
 simp (disch:=first|(simp only [yk,seval];done)|omega|(simp only [yz]<;>omega)|fail) only [↓yp,yA,ys0,ys1,seval,fitB,newC,endD,endR,st_faS_116_1,st_ldS_114,hmp]
 refine A_lookN (es := es) (clock := clock) (q := some n) (j := j) (s := m) (k := k) (by simp (disch:=first|(simp only [yk,seval];done)|omega|(simp only [yz]<;>omega)|fail) only [↓yp,yA,ys0,ys1,seval,fitB,newC,endD,endR]) (by simp (disch:=first|(simp only [yk,seval];done)|omega|(simp only [yz]<;>omega)|fail) only [↓yp,yA,ys0,ys1,seval,fitB,newC,endD,endR]) (by rw [get_alloc_lt (by first|omega|(simp only [yz]<;>omega)), get_alloc_lt (by first|omega|(simp only [yz]<;>omega))]; exact hb) hm hf (by first|omega|(simp only [yz]<;>omega)) ?_
 simp (disch:=first|(simp only [yk,seval];done)|omega|(simp only [yz]<;>omega)|fail) only [↓yp,yA,ys0,ys1,seval,fitB,newC,endD,endR,st_faS_116_1,st_ldS_114,Option.getD_some,Option.isSome_some]
theorem c93n (hs : Rw pkE H a ps) (hl : ps.length ≤ 4) (hpk : ∀ p ∈ ps, p.Ok) (hgs : Rw gdE H a' gs) (hgl : gs.length ≤ 4) (hgk : ∀ g ∈ gs, g.Ok) (hm : m.length = 4) (hmb : ∀ n ∈ m, 0 ≤ n ∧ n ≤ 6) (ho : sameV 5 lo lo = true) (hb : H.get k = .map es clock) (hk : k < H.size) (hf : aFindKey tabA Tryz.prog 120 (.agg ⟨tv m⟩) es = some none) :
  resK (acall tabA (aexec tabA Tryz.prog (N + 800)) 77 [.agg ⟨[.slice a ps.length cap, .slice a' gs.length cap', lo, .map (some k)]⟩, .agg ⟨tv m⟩] H) k fun _ v H' => v = .int .i64 (isum m * (grd ps gs m).pr) ∧ H' = ((H.alloc (.rw [.slice a ps.length cap, .slice a' gs.length cap', lo, .map (some k)] 116 false [])).alloc (.rw (tv m) 120 false [])).put k (.map (es ++ [(.agg ⟨tv m⟩, .int .i64 (isum m * (grd ps gs m).pr), clock)]) (clock + 1)) := by
 refine call_keep tabA_fr (R := fun v H' => v = .int .i64 (isum m * (grd ps gs m).pr) ∧ H' = ((H.alloc (.rw [.slice a ps.length cap, .slice a' gs.length cap', lo, .map (some k)] 116 false [])).alloc (.rw (tv m) 120 false [])).put k (.map (es ++ [(.agg ⟨tv m⟩, .int .i64 (isum m * (grd ps gs m).pr), clock)]) (clock + 1))) (k := 28) (rs := [.tmp 4]) rfl fn_77 rfl rfl rfl (by omega) ?_ (fun v H' h => h) ?_
 rotate_left
 ·rintro v H' ⟨rfl, rfl⟩ _ fr
  have h1 := fr.same k hk
  rw [get_put_same (by first|omega|(simp only [yz]<;>omega)), hb] at h1
  simp only [ABlk.map.injEq] at h1
  have h2 := congrArg List.length h1.1
  simp at h2
 have hmp : part (tv m) 0 5 = some (.agg ⟨tv m⟩) := part_tv hm
 have hst := fun n => sl_tv (n := n) m
 have fr : Fr H ((H.alloc (.rw [.slice a ps.length cap, .slice a' gs.length cap', lo, .map (some k)] 116 false [])).alloc (.rw (tv m) 120 false [])) := by (repeat (first | exact Fr.refl _ | assumption | refine Fr.allocd ?_ _ | refine Fr.kill ?_ (by first | assumption | omega) | refine Fr.put ?_ (by first | omega | (simp only [yz] <;> omega)) _))
 have h76 := fun (N : Nat) (H : AHeap) => c76 (N := N) (H := H) (t := m) hm fun x hx => by have := hmb x hx; omega
 have h92 := fun (N : Nat) => c92 (N := N) (cap := cap) (cap' := cap') (lo := lo) (mp := .map (some k)) (hs.fr fr) hl hpk (hgs.fr fr) hgl hgk hm hmb ho sv_map
 simp (disch:=first|(simp only [yk,seval];done)|omega|(simp only [yz]<;>omega)|fail) only [↓yp,yA,ys0,ys1,seval,fitB,newC,endD,endR,st_faS_116_1,st_ldS_114,hmp]
 refine A_lookN (es := es) (clock := clock) (q := none) (j := 0) (s := m) (k := k) (by simp (disch:=first|(simp only [yk,seval];done)|omega|(simp only [yz]<;>omega)|fail) only [↓yp,yA,ys0,ys1,seval,fitB,newC,endD,endR]) (by simp (disch:=first|(simp only [yk,seval];done)|omega|(simp only [yz]<;>omega)|fail) only [↓yp,yA,ys0,ys1,seval,fitB,newC,endD,endR]) (by rw [get_alloc_lt (by first|omega|(simp only [yz]<;>omega)), get_alloc_lt (by first|omega|(simp only [yz]<;>omega))]; exact hb) hm hf (by first|omega|(simp only [yz]<;>omega)) ?_
 simp (disch:=first|(simp only [yk,seval];done)|omega|(simp only [yz]<;>omega)|fail) only [↓yp,yA,ys0,ys1,seval,fitB,newC,endD,endR,st_faS_116_1,st_ldS_114,Option.getD_none,Option.isSome_none]
 simp only [Gd.enc] at h92
 have hp := grd_ok (ps := ps) (m := m) hgk
 have hi := m_sum hm hmb
 have hmul : 0 ≤ isum m * (grd ps gs m).pr ∧ isum m * (grd ps gs m).pr ≤ 2400 := ⟨Int.mul_nonneg hi.1 hp.1, by have := Int.mul_le_mul hi.2 hp.2 hp.1 (by omega : (0:Int) ≤ 24); omega⟩
 have hw : w64 (isum m * (grd ps gs m).pr) = isum m * (grd ps gs m).pr := w64_of (by omega)
 refine W_draw [] rfl (by kernel_rfl) (by kernel_rfl) (by first|omega|(simp only [yz]<;>omega)) ?_
 simp (disch:=first|(simp only [yk,seval];done)|omega|(simp only [yz]<;>omega)|fail) only [↓yp,yA,ys0,ys1,seval,fitB,newC,endD,endR,st_faS_116_1,st_ldS_114,hmp,h76,h92,hst,ho,sv_map,hw,A_fld,flK_of]
 refine A_updN (es := es) (clock := clock) (s := m) (k := k) (n := isum m * (grd ps gs m).pr) (by simp (disch:=first|(simp only [yk,seval];done)|omega|(simp only [yz]<;>omega)|fail) only [↓yp,yA,ys0,ys1,seval,fitB,newC,endD,endR]) (by simp (disch:=first|(simp only [yk,seval];done)|omega|(simp only [yz]<;>omega)|fail) only [↓yp,yA,ys0,ys1,seval,fitB,newC,endD,endR]) (by simp (disch:=first|(simp only [yk,seval];done)|omega|(simp only [yz]<;>omega)|fail) only [↓yp,yA,ys0,ys1,seval,fitB,newC,endD,endR]) (by rw [get_alloc_lt (by first|omega|(simp only [yz]<;>omega)), get_alloc_lt (by first|omega|(simp only [yz]<;>omega))]; exact hb) hm hf (by first|omega|(simp only [yz]<;>omega)) ?_
 simp (disch:=first|(simp only [yk,seval];done)|omega|(simp only [yz]<;>omega)|fail) only [↓yp,yA,ys0,ys1,seval,fitB,newC,endD,endR]
end
end Go.Am
namespace Go.Am
open Go.Proofs
def grs4 (args : List Value) (H : AHeap) : Option (List Pk × List Int × List Gd) := match work4 args H with
 | some (ps, ms, .slice a n _) => bif Nat.ble n 4 then match rowI H a (n * 2) with
   | some t => match decGd t with
    | some gs => bif gs.all Gd.okB then some (ps, ms, gs) else none
    | none => none
   | none => none
  else none
 | _ => none
structure Grs4 (args : List Value) (H : AHeap) (ps : List Pk) (ms : List Int) (gs : List Gd) : Prop where
 ex : ∃ a cap a' cap' lo mp, args = [.agg ⟨[.slice a ps.length cap, .slice a' gs.length cap', lo, mp]⟩, .agg ⟨tv ms⟩] ∧ Rw pkE H a ps ∧ Rw gdE H a' gs ∧ sameV 5 lo lo = true ∧ sameV 5 mp mp = true
 pl : ps.length ≤ 4
 pk : ∀ p ∈ ps, p.Ok
 gl : gs.length ≤ 4
 gk : ∀ g ∈ gs, g.Ok
 ml : ms.length = 4
 mb : ∀ n ∈ ms, 0 ≤ n ∧ n ≤ 6
theorem grs4_ok {args : List Value} {H : AHeap} {ps : List Pk} {ms : List Int} {gs : List Gd} (h : grs4 args H = some (ps, ms, gs)) : Grs4 args H ps ms gs := by
 unfold grs4 at h
 split at h
 ·rename_i ps ms a' n cap' hw
  cases hn : Nat.ble n 4
  ·rw [hn] at h; cases h
  ·rw [hn, cond_true] at h
   split at h
   ·rename_i t ht
    split at h
    ·rename_i gs hg
     cases hb : gs.all Gd.okB
     ·rw [hb] at h; cases h
     ·rw [hb, cond_true] at h
      cases h
      rw [List.all_eq_true] at hb
      have hd := decGd_ok hg
      have hl : n = gs.length := by
       have e1 := rowI_len ht
       have e2 := congrArg List.length hd
       rw [tv_len, fl_length, e1] at e2
       rw [show gdE.z = 2 from rfl] at e2
       omega
      subst hl
      obtain ⟨⟨a, cap, lo, mp, rfl, h1, h2, h3⟩, h4, h5, h6, h7, h8⟩ := work4_ok hw
      exact ⟨⟨a, cap, a', cap', lo, mp, rfl, h1, rowI_ok (E := gdE) ht hd, h2, h3⟩, h4, h5, Nat.le_of_ble_eq_true hn, fun g hg => Gd.okB_ok (hb g hg), h6, h7⟩
    ·cases h
   ·cases h
 ·cases h
def mapOf (args : List Value) : Option Nat := match args with
 | [.agg w, _] => match w.toList with
  | [.slice _ _ _, .slice _ _ _, _, .map (some k)] => some k
  | _ => none
 | _ => none
theorem mapOf_ok {args : List Value} {k : Nat} (h : mapOf args = some k) : ∃ a n c a' n' c' lo v, args = [.agg ⟨[.slice a n c, .slice a' n' c', lo, .map (some k)]⟩, v] := by
 unfold mapOf at h
 split at h
 ·rename_i w v
  split at h
  ·rename_i a n c a' n' c' lo k' hw
   cases h
   obtain ⟨w⟩ := w
   simp only at hw
   subst hw
   exact ⟨a, n, c, a', n', c', lo, v, rfl⟩
  ·cases h
 ·cases h
def key4 (args : List Value) : Option (Int × Int × Int × Int) := match args with
 | [_, .agg m] => match m.toList with
  | [.int .i64 a, .int .i64 b, .int .i64 c, .int .i64 d] => some (a, b, c, d)
  | _ => none
 | _ => none
theorem key4_ok {args : List Value} {a b c d : Int} (h : key4 args = some (a, b, c, d)) : ∃ v, args = [v, .agg ⟨tv [a, b, c, d]⟩] := by
 unfold key4 at h
 split at h
 ·rename_i v m
  split at h
  ·rename_i a' b' c' d' hm
   cases h
   obtain ⟨m⟩ := m
   simp only at hm
   subst hm
   exact ⟨v, rfl⟩
  ·cases h
 ·cases h
def nat93 (args : List Value) (H : AHeap) : Option (Bool × Value × AHeap × Nat) := match mapOf args, key4 args with
 | some k, some (a, b, c, d) => bif Nat.blt k H.size then match H.get k with
   | .map es clock => match nfind a b c d es with
    | some (some n) => some (true, .int .i64 n, H, H.size)
    | some none => match grs4 args H with
     | some (ps, ms, gs) => match args with
      | [.agg w, m] => some (false, .int .i64 (isum ms * (grd ps gs ms).pr), ((H.alloc (.rw w.toList 116 false [])).alloc (.rw (tv ms) 120 false [])).put k (.map (es ++ [(m, .int .i64 (isum ms * (grd ps gs ms).pr), clock)]) (clock + 1)), k)
      | _ => none
     | none => none
    | none => none
   | _ => none
  else none
 | _, _ => none
theorem acall_scall {N : Nat} {f : FuncId} {args : List Value} {H : AHeap} {b : Bool} {v : Value} {H' : AHeap} {m : Nat} (h : acall tabA (aexec tabA Tryz.prog N) f args H = some (b, v, H', m)) :
  (∃ fn c, Tryz.prog.funcs[f]? = some fn ∧ fn.body = some c ∧ (fn.name == "runtime.NumGoroutine") = false) ∧ SCall Tryz.prog f args H v H' m ∧ (b = true → H' = H ∧ m = H.size) := by
 obtain ⟨⟨fn, c, hc⟩, h2, h3⟩ := acall_ok tabA_fits (aexec_ok tabA_fits N).1 h
 exact ⟨⟨fn, c, hc.1, hc.2, hc.3⟩, h2, h3⟩
theorem nat93_ok {args : List Value} {H : AHeap} {b : Bool} {v : Value} {H' : AHeap} {m : Nat} (h : nat93 args H = some (b, v, H', m)) :
  (∃ fn c, Tryz.prog.funcs[77]? = some fn ∧ fn.body = some c ∧ (fn.name == "runtime.NumGoroutine") = false) ∧ SCall Tryz.prog 77 args H v H' m ∧ (b = true → H' = H ∧ m = H.size) := by
 unfold nat93 at h
 split at h
 ·rename_i k a b c d hmk hkey
  cases hk : Nat.blt k H.size
  ·rw [hk] at h; cases h
  ·rw [hk, cond_true] at h
   have hk' : k < H.size := by simp [Nat.blt] at hk; omega
   split at h
   ·rename_i es clock hb
    obtain ⟨a1, n1, c1, a2, n2, c2, lo, v1, rfl⟩ := mapOf_ok hmk
    obtain ⟨v2, hv⟩ := key4_ok hkey
    simp only [List.cons.injEq,and_true] at hv
    obtain ⟨-, rfl⟩ := hv
    split at h
    ·rename_i n hn
     cases h
     obtain ⟨j, hj⟩ := nfind_key hn
     have h1 := c93k (N := 0) (a := a1) (a' := a2) (cap := c1) (cap' := c2) (ps := List.replicate n1 ⟨0, 0, 0, 0⟩) (gs := List.replicate n2 ⟨0, 0⟩) (lo := lo) (m := [a, b, c, d]) rfl hb hk' hj
     rw [List.length_replicate, List.length_replicate] at h1
     exact acall_scall h1
    ·rename_i hn
     split at h
     ·rename_i ps ms gs hg
      cases h
      obtain ⟨j, hj⟩ := nfind_key hn
      obtain ⟨⟨a3, c3, a4, c4, lo', mp, he, h1, h2, h3, h4⟩, h5, h6, h7, h8, h9, h10⟩ := grs4_ok hg
      simp only [List.cons.injEq,Value.agg.injEq,Array.mk.injEq,Value.slice.injEq,and_true] at he
      obtain ⟨⟨⟨rfl, rfl, rfl⟩, ⟨rfl, rfl, rfl⟩, rfl, rfl⟩, hms⟩ := he
      have hms' : ms = [a, b, c, d] := by
       have : decI (tv ms) = decI (tv [a, b, c, d]) := by rw [hms]
       have e : ∀ t : List Int, decI (tv t) = some t := by
        intro t
        induction t with
        | nil => rfl
        | cons x t ih => show decI (.int .i64 x :: tv t) = _; rw [decI, ih]
       rw [e, e] at this
       exact Option.some.inj this
      subst hms'
      obtain ⟨f, v', H'', m', r1, r2, rfl, rfl⟩ := resK_elim (c93n (N := 0) h1 h5 h6 h2 h7 h8 h9 h10 h3 hb hk' hj)
      obtain ⟨s1, s2, _⟩ := acall_scall r1
      exact ⟨s1, s2.weaken r2, fun h => by cases h⟩
     ·cases h
    ·cases h
   ·cases h
 ·cases h
def natP (f : FuncId) (args : List Value) (H : AHeap) : Option (Bool × Value × AHeap × Nat) := bif Nat.beq f 77 then nat93 args H else natM f args H
noncomputable def tabP : Tab := ⟨tab.und, tab.inf, tab.fn, natP, tab.plan⟩
theorem tabP_fits : tabP.Fits Tryz.prog where
 und := tab_fits.und
 inf := tab_fits.inf
 fn := tab_fits.fn
 mixed := tab_fits.mixed
 memo f args H b v H' m h := by
  have h' : (bif Nat.beq f 77 then nat93 args H else natM f args H) = some (b, v, H', m) := h
  cases hf : Nat.beq f 77
  ·rw [hf, cond_false] at h'
   exact tabN_fits.memo f args H b v H' m h'
  ·rw [hf, cond_true] at h'
   rw [Nat.eq_of_beq_eq_true hf]
   exact nat93_ok h'
end Go.Am
