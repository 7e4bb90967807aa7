/- Cuts of slices, lengths, appended elements, copies. -/
import Derived.Test.YtjpcaamfcfkmhaaT1
set_option linter.unusedSimpArgs false
set_option linter.unusedVariables false
namespace Go.Am
variable {T : Tab} {P : Program} {σ : Place} {H : AHeap} {w : World} {t : Operand → Option Value} {ρ : Operand → Value}
def abound (t : Operand → Option Value) : Option Operand → Option (Option Int)
 | none => some none
 | some x => match t x with
  | some (.int _ n) => some (some n)
  | _ => none
/-- The three bounds of a cut, where the greatest end is known. -/
def abounds (len cap : Nat) (lo hi mx : Option Int) : Option (Nat × Nat × Nat) :=
 let m : Option Nat := match mx with
  | none => some cap
  | some v => bif decide (0 ≤ v) && decide (v ≤ cap) then some v.toNat else none
 match m with
 | none => none
 | some m =>
  let h : Option Nat := match hi, mx with
   | none, none => some len
   | none, some _ => none
   | some v, _ => bif decide (0 ≤ v) && decide (v ≤ m) then some v.toNat else none
  match h with
  | none => none
  | some h =>
   let l : Option Nat := match lo with
    | none => some 0
    | some v => bif decide (0 ≤ v) && decide (v ≤ h) then some v.toNat else none
   match l with
   | none => none
   | some l => some (l, h, m)
/-- A bound in the model. -/
def isBound (v : Option Int) (x : Option Value) : Prop := match v, x with
 | none, none => True
 | some n, some (.int _ k) => k = n
 | _, _ => False
theorem abound_ok (hρ : Evals σ t ρ) {x : Option Operand} {v : Option Int} (h : abound t x = some v) : isBound v (x.map ρ) := by
 cases x with
 | none => simp only [abound,Option.some.injEq] at h; subst h; trivial
 | some x =>
  simp only [abound] at h
  split at h
  ·rename_i k n hx
   cases h
   have := (hρ _ _ hx).1
   simp only [ren] at this
   simp [isBound, this]
  ·cases h
theorem bound_cases {v : Option Int} {x : Option Value} (h : isBound v x) : (v = none ∧ x = none) ∨ ∃ n k, v = some n ∧ x = some (.int k n) := by
 cases v with
 | none =>
  cases x with
  | none => exact .inl ⟨rfl, rfl⟩
  | some u => cases u <;> exact h.elim
 | some n =>
  cases x with
  | none => exact h.elim
  | some u =>
   cases u with
   | int k m =>
    have e : m = n := h
    subst e; exact .inr ⟨m, k, rfl, rfl⟩
   | _ => exact h.elim
theorem run_bound (k : IntKind) (n : Int) (y : Nat) (code : BoundsCode) (w : World) (h : (decide (0 ≤ n) && decide (n ≤ y)) = true) :
  (Instr.sliceBound (.int k n) y code).run P w = .ok n.toNat w := by
 simp only [Bool.and_eq_true,decide_eq_true_eq] at h
 simp [Instr.sliceBound, asIntOf, h.1, h.2]
theorem abounds_ok {len cap : Nat} {lo hi mx : Option Int} {l h m : Nat} (hb : abounds len cap lo hi mx = some (l, h, m)) {xl xh xm : Option Value}
  (hl : isBound lo xl) (hh : isBound hi xh) (hm : isBound mx xm) (b : Bool) (w : World) :
  (Instr.sliceBounds b len cap xl xh xm).run P w = .ok (l, h, m) w := by
 unfold abounds at hb
 rcases bound_cases hm with ⟨rfl, rfl⟩ | ⟨nm, km, rfl, rfl⟩
 ·simp only at hb
  rcases bound_cases hh with ⟨rfl, rfl⟩ | ⟨nh, kh, rfl, rfl⟩
  ·simp only at hb
   rcases bound_cases hl with ⟨rfl, rfl⟩ | ⟨nl, kl, rfl, rfl⟩
   ·simp only [Option.some.injEq,Prod.mk.injEq] at hb
    obtain ⟨rfl, rfl, rfl⟩ := hb
    rfl
   ·cases q1 : (decide (0 ≤ nl) && decide (nl ≤ len))
    ·simp only [q1,cond_false,reduceCtorEq] at hb
    ·simp only [q1,cond_true,Option.some.injEq,Prod.mk.injEq] at hb
     obtain ⟨rfl, rfl, rfl⟩ := hb
     simp [Instr.sliceBounds, run_bound (P := P) kl nl len _ w q1]
  ·cases q2 : (decide (0 ≤ nh) && decide (nh ≤ cap))
   ·simp only [q2,cond_false,reduceCtorEq] at hb
   ·simp only [q2,cond_true] at hb
    rcases bound_cases hl with ⟨rfl, rfl⟩ | ⟨nl, kl, rfl, rfl⟩
    ·simp only [Option.some.injEq,Prod.mk.injEq] at hb
     obtain ⟨rfl, rfl, rfl⟩ := hb
     simp [Instr.sliceBounds, run_bound (P := P) kh nh cap _ w q2]
    ·cases q1 : (decide (0 ≤ nl) && decide (nl ≤ nh.toNat))
     ·simp only [q1,cond_false,reduceCtorEq] at hb
     ·simp only [q1,cond_true,Option.some.injEq,Prod.mk.injEq] at hb
      obtain ⟨rfl, rfl, rfl⟩ := hb
      simp [Instr.sliceBounds, run_bound (P := P) kh nh cap _ w q2, run_bound (P := P) kl nl nh.toNat _ w q1]
 ·cases q3 : (decide (0 ≤ nm) && decide (nm ≤ cap))
  ·simp only [q3,cond_false,reduceCtorEq] at hb
  ·simp only [q3,cond_true] at hb
   rcases bound_cases hh with ⟨rfl, rfl⟩ | ⟨nh, kh, rfl, rfl⟩
   ·simp at hb
   ·cases q2 : (decide (0 ≤ nh) && decide (nh ≤ nm.toNat))
    ·simp only [q2,cond_false,reduceCtorEq] at hb
    ·simp only [q2,cond_true] at hb
     rcases bound_cases hl with ⟨rfl, rfl⟩ | ⟨nl, kl, rfl, rfl⟩
     ·simp only [Option.some.injEq,Prod.mk.injEq] at hb
      obtain ⟨rfl, rfl, rfl⟩ := hb
      simp [Instr.sliceBounds, run_bound (P := P) km nm cap _ w q3, run_bound (P := P) kh nh nm.toNat _ w q2]
     ·cases q1 : (decide (0 ≤ nl) && decide (nl ≤ nh.toNat))
      ·simp only [q1,cond_false,reduceCtorEq] at hb
      ·simp only [q1,cond_true,Option.some.injEq,Prod.mk.injEq] at hb
       obtain ⟨rfl, rfl, rfl⟩ := hb
       simp [Instr.sliceBounds, run_bound (P := P) km nm cap _ w q3, run_bound (P := P) kh nh nm.toNat _ w q2, run_bound (P := P) kl nl nh.toNat _ w q1]
theorem le_of_q {n : Int} {y : Nat} (h : (decide (0 ≤ n) && decide (n ≤ y)) = true) : n.toNat ≤ y := by
 simp only [Bool.and_eq_true,decide_eq_true_eq] at h; omega
theorem abounds_le {len cap : Nat} {lo hi mx : Option Int} {l h m : Nat} (hb : abounds len cap lo hi mx = some (l, h, m)) (hlc : len ≤ cap) : l ≤ h ∧ h ≤ m ∧ m ≤ cap ∧ (mx = none → m = cap) := by
 unfold abounds at hb
 cases mx with
 | none =>
  simp only at hb
  cases hi with
  | none =>
   simp only at hb
   cases lo with
   | none =>
    simp only [Option.some.injEq,Prod.mk.injEq] at hb
    omega
   | some nl =>
    cases q1 : (decide (0 ≤ nl) && decide (nl ≤ len))
    ·simp only [q1,cond_false,reduceCtorEq] at hb
    ·simp only [q1,cond_true,Option.some.injEq,Prod.mk.injEq] at hb
     have := le_of_q q1
     omega
  | some nh =>
   cases q2 : (decide (0 ≤ nh) && decide (nh ≤ cap))
   ·simp only [q2,cond_false,reduceCtorEq] at hb
   ·simp only [q2,cond_true] at hb
    have := le_of_q q2
    cases lo with
    | none =>
     simp only [Option.some.injEq,Prod.mk.injEq] at hb
     omega
    | some nl =>
     cases q1 : (decide (0 ≤ nl) && decide (nl ≤ nh.toNat))
     ·simp only [q1,cond_false,reduceCtorEq] at hb
     ·simp only [q1,cond_true,Option.some.injEq,Prod.mk.injEq] at hb
      have := le_of_q q1
      omega
 | some nm =>
  cases q3 : (decide (0 ≤ nm) && decide (nm ≤ cap))
  ·simp only [q3,cond_false,reduceCtorEq] at hb
  ·simp only [q3,cond_true] at hb
   have := le_of_q q3
   cases hi with
   | none => simp only [reduceCtorEq] at hb
   | some nh =>
    cases q2 : (decide (0 ≤ nh) && decide (nh ≤ nm.toNat))
    ·simp only [q2,cond_false,reduceCtorEq] at hb
    ·simp only [q2,cond_true] at hb
     have := le_of_q q2
     cases lo with
     | none =>
      simp only [Option.some.injEq,Prod.mk.injEq] at hb
      exact ⟨by omega, by omega, by omega, fun h => by cases h⟩
     | some nl =>
      cases q1 : (decide (0 ≤ nl) && decide (nl ≤ nh.toNat))
      ·simp only [q1,cond_false,reduceCtorEq] at hb
      ·simp only [q1,cond_true,Option.some.injEq,Prod.mk.injEq] at hb
       have := le_of_q q1
       exact ⟨by omega, by omega, by omega, fun h => by cases h⟩
/-- Bounds that hold up to a length hold up to more, where the last one is not named. -/
theorem abounds_more {len kn cap : Nat} {lo hi mx : Option Int} {l h m : Nat} (hb : abounds len kn lo hi mx = some (l, h, m)) (hlc : kn ≤ cap) :
  abounds len cap lo hi mx = some (l, h, match mx with | none => cap | some _ => m) := by
 unfold abounds at hb ⊢
 cases mx with
 | none =>
  simp only at hb ⊢
  cases hi with
  | none =>
   simp only at hb ⊢
   cases lo with
   | none =>
    simp only [Option.some.injEq,Prod.mk.injEq] at hb ⊢
    exact ⟨by omega, by omega, by first | rfl | trivial⟩
   | some nl =>
    cases q1 : (decide (0 ≤ nl) && decide (nl ≤ len))
    ·simp only [q1,cond_false,reduceCtorEq] at hb
    ·simp only [q1,cond_true,Option.some.injEq,Prod.mk.injEq] at hb ⊢
     exact ⟨by omega, by omega, by first | rfl | trivial⟩
  | some nh =>
   cases q2 : (decide (0 ≤ nh) && decide (nh ≤ kn))
   ·simp only [q2,cond_false,reduceCtorEq] at hb
   ·have q2' : (decide (0 ≤ nh) && decide (nh ≤ cap)) = true := by
     simp only [Bool.and_eq_true,decide_eq_true_eq] at q2 ⊢; omega
    simp only [q2,q2',cond_true] at hb ⊢
    cases lo with
    | none =>
     simp only [Option.some.injEq,Prod.mk.injEq] at hb ⊢
     exact ⟨by omega, by omega, by first | rfl | trivial⟩
    | some nl =>
     cases q1 : (decide (0 ≤ nl) && decide (nl ≤ nh.toNat))
     ·simp only [q1,cond_false,reduceCtorEq] at hb
     ·simp only [q1,cond_true,Option.some.injEq,Prod.mk.injEq] at hb ⊢
      exact ⟨by omega, by omega, by first | rfl | trivial⟩
 | some nm =>
  cases q3 : (decide (0 ≤ nm) && decide (nm ≤ kn))
  ·simp only [q3,cond_false,reduceCtorEq] at hb
  ·have q3' : (decide (0 ≤ nm) && decide (nm ≤ cap)) = true := by
    simp only [Bool.and_eq_true,decide_eq_true_eq] at q3 ⊢; omega
   simp only [q3,q3',cond_true] at hb ⊢
   exact hb
theorem pick_add {σ : Place} {a : Addr} (ha : a.spot = none ∧ (σ.at_ a.block).isSome = true) (m l s : Nat) :
  (if m = l then σ.addr a else (σ.addr a).add (l * s)) = σ.addr ⟨a.block, a.off + (bif Nat.beq m l then 0 else l * s), none⟩ := by
 by_cases e : m = l
 ·have : Nat.beq m l = true := by subst e; simp
  simp only [e,if_true,Nat.beq_refl,cond_true,Nat.add_zero]
  obtain ⟨p, hp⟩ := Option.isSome_iff_exists.1 ha.2
  cases a; simp_all [Place.addr]
 ·rw [if_neg e, beq_ne e, cond_false, addr_off σ ha]
end Go.Am
/- Cuts of slices. -/
namespace Go.Am
variable {T : Tab} {P : Program} {σ : Place} {H : AHeap} {w : World} {t : Operand → Option Value} {ρ : Operand → Value}
/-- How far a slice is known to reach, where its end is open. -/
def known (H : AHeap) (a : Addr) (len size cap : Nat) : Nat :=
 bif Nat.beq cap (OPEN + size) then
  match H.get a.block with
  | .rw c _ _ _ => bif Nat.blt len ((c.length - a.off) / size) then (c.length - a.off) / size else len
  | _ => len
 else len
theorem known_ok (r : Rel σ H w) {a : Addr} {len size cap : Nat} (hp : (σ.at_ a.block).isSome = true) (h : len ≤ σ.cap (some a) cap) : len ≤ known H a len size cap ∧ known H a len size cap ≤ σ.cap (some a) cap := by
 unfold known
 cases hc : Nat.beq cap (OPEN + size)
 ·exact ⟨Nat.le_refl _, h⟩
 ·have := Nat.eq_of_beq_eq_true hc
  subst this
  simp only [cond_true]
  split
  ·rename_i c e o al hg
   cases hl : Nat.blt len ((c.length - a.off) / size)
   ·exact ⟨Nat.le_refl _, h⟩
   ·have hlt := lt_of_blt hl
    refine ⟨by simp only [cond_true]; omega, ?_⟩
    obtain ⟨p, hp⟩ := Option.isSome_iff_exists.1 hp
    obtain ⟨b, s⟩ := p
    have hh := r.holds _ _ _ hp
    rw [hg] at hh
    obtain ⟨_, _, rest, _, h3, _⟩ := hh
    simp only [cond_true,Place.cap]
    rw [if_neg (Nat.not_lt.2 (Nat.le_add_right _ _)), Nat.add_sub_cancel_left]
    exact Nat.div_le_div_right (by omega)
  ·exact ⟨Nat.le_refl _, h⟩
def aSlice (T : Tab) (t : Operand → Option Value) (H : AHeap) (ty : TypeId) (x : Operand) (lo hi mx : Option Operand) : Option (Value × AHeap × Nat) :=
 match t x, T.und ty, abound t lo, abound t hi, abound t mx with
 | some (.pointer (some a)), some (.array n e), some vl, some vh, some vm =>
  match T.inf e, abounds n n vl vh vm with
  | some i, some (l, h, m) => bif Nat.blt m OPEN then
    some (.slice (some ⟨a.block, a.off + (bif Nat.beq m l then 0 else l * i.size), none⟩) (h - l) (m - l), H, H.size) else none
  | _, _ => none
 | some (.slice a len cap), some (.slice e), some vl, some vh, some vm =>
  match T.inf e with
  | some i =>
   bif Nat.blt cap OPEN then
    match abounds len cap vl vh vm with
    | some (l, h, m) => bif Nat.blt m OPEN then
      match a with
      | none => some (.slice none (h - l) (m - l), H, H.size)
      | some a => some (.slice (some ⟨a.block, a.off + (bif Nat.beq m l then 0 else l * i.size), none⟩) (h - l) (m - l), H, H.size)
     else none
    | none => none
   else
    match a with
    | none => none
    | some a =>
    match abounds len (known H a len i.size cap) vl vh vm with
    | some (l, h, m) =>
     bif vm.isSome then (bif Nat.blt m OPEN then some (.slice (some ⟨a.block, a.off + (bif Nat.beq m l then 0 else l * i.size), none⟩) (h - l) (m - l), H, H.size) else none)
     else bif (Nat.blt l (known H a len i.size cap) || Nat.beq l 0) && Nat.beq cap (OPEN + i.size) then
      some (.slice (some ⟨a.block, a.off + l * i.size, none⟩) (h - l) cap, H, H.size)
     else bif Nat.beq h l && Nat.blt a.off OPEN && Nat.blt l OPEN && Nat.blt i.size OPEN && Nat.beq cap (OPEN + i.size) then
      some (.chan (some (tailZ a.block a.off l i.size)), H, H.size)
     else none
    | _ => none
  | none => none
 | _, _, _, _, _ => none
theorem aSlice_ok (hT : T.Fits P) {o : Oper} {ty : TypeId} {x : Operand} {lo hi mx : Option Operand} (ho : o.op = .slice ty x lo hi mx) (r : Rel σ H w) (hρ : Evals σ t ρ) {v : Value} {H' : AHeap} {m : Nat}
  (h : aSlice T t H ty x lo hi mx = some (v, H', m)) : Runs P (execOp ρ o) σ H w v H' m := by
 unfold aSlice at h
 split at h
 ·rename_i a n e vl vh vm hx hty hl hh hm
  split at h
  ·rename_i i l h1 m1 hi' hb
   cases hlt : Nat.blt m1 OPEN
   ·rw [hlt] at h; cases h
   ·rw [hlt] at h; cases h
    obtain ⟨e1, e2⟩ := hρ _ _ hx
    simp only [okv] at e2
    simp only [ren,Option.map_some] at e1
    have hrun := abounds_ok (P := P) hb (abound_ok hρ hl) (abound_ok hρ hh) (abound_ok hρ hm) false w
    have hm1 : m1 - l < OPEN := by have := lt_of_blt hlt; omega
    refine Runs.same r ?_ ?_
    ·simp only [ren,Option.map_some,Place.cap,hm1,if_true]
     rw [← pick_add e2]
     simp [execOp, ho, e1, Instr.sliceAt, run_und hT hty, Instr.sureAddr, hrun, run_size hT hi']
    ·rw [okv]; exact ⟨rfl, e2.2, fun hc => by omega⟩
  ·cases h
 ·rename_i a len cap e vl vh vm hx hty hl hh hm
  obtain ⟨e1, e2⟩ := hρ _ _ hx
  have B1 := abound_ok hρ hl
  have B2 := abound_ok hρ hh
  have B3 := abound_ok hρ hm
  split at h
  ·rename_i i hi'
   cases hcl : Nat.blt cap OPEN
   ·-- open
    simp only [hcl,cond_false] at h
    split at h
    ·cases h
    rename_i a
    split at h
    ·rename_i l h1 m1 hb
     have hge : OPEN ≤ cap := by
      rcases Nat.lt_or_ge cap OPEN with h' | h'
      ·rw [blt_true h'] at hcl; cases hcl
      ·exact h'
     rw [okv] at e2
     obtain ⟨o1, o2, o3⟩ := e2
     obtain ⟨o4, o5⟩ := o3 hge
     simp only [ren,Option.map_some] at e1
     obtain ⟨kn1, kn2⟩ := known_ok (size := i.size) r o2 o5
     generalize hkn : known H a len i.size cap = kn at *
     obtain ⟨b1, b2, b3, b4⟩ := abounds_le hb kn1
     have hb' := abounds_more hb kn2
     have hrun := abounds_ok (P := P) hb' B1 B2 B3 true w
     cases hvm : vm.isSome
     ·simp only [hvm,cond_false] at h
      have hvn : vm = none := by simpa using hvm
      subst hvn
      simp only at hrun
      cases hc : ((Nat.blt l kn || Nat.beq l 0) && Nat.beq cap (OPEN + i.size))
      ·rw [hc] at h
       simp only [cond_false] at h
       cases hd : (Nat.beq h1 l && Nat.blt a.off OPEN && Nat.blt l OPEN && Nat.blt i.size OPEN && Nat.beq cap (OPEN + i.size))
       ·rw [hd] at h; cases h
       ·rw [hd] at h
        simp only [cond_true,Option.some.injEq,Prod.mk.injEq] at h
        obtain ⟨rfl, rfl, rfl⟩ := h
        simp only [Bool.and_eq_true] at hd
        obtain ⟨⟨⟨⟨d1, d2⟩, d3⟩, d4⟩, d5⟩ := hd
        have hcap : cap = OPEN + i.size := Nat.eq_of_beq_eq_true d5
        subst hcap
        obtain rfl : h1 = l := Nat.eq_of_beq_eq_true d1
        obtain ⟨D1, D2, D3, D4⟩ := tailZ_dec (k := a.block) (lt_of_blt d2) (lt_of_blt d3) (lt_of_blt d4)
        have ha' : (⟨a.block, a.off, none⟩ : Addr) = a := by cases a; simp_all
        have t1 : σ.tailC (tailZ a.block a.off h1 i.size) = σ.cap (some a) (OPEN + i.size) := by
         unfold Place.tailC
         rw [D4, D3, D1, ha']
        have t2 : σ.tailA (tailZ a.block a.off h1 i.size) = if σ.cap (some a) (OPEN + i.size) = h1 then some (σ.addr a) else some ((σ.addr a).add (h1 * i.size)) := by
         unfold Place.tailA
         rw [D4, D3, D2, D1, ha']
         simp only [t1]
        refine Runs.same r ?_ ?_
        ·simp only [ren,Option.getD_some,t1,t2,D2]
         simp [execOp, ho, e1, Instr.sliceAt, Instr.slice, run_und hT hty, hrun, run_size hT hi']
        ·simp only [okv,Option.getD_some,D4]
         exact o2
      ·rw [hc] at h; cases h
       simp only [Bool.and_eq_true,Bool.or_eq_true] at hc
       have hcap : cap = OPEN + i.size := Nat.eq_of_beq_eq_true hc.2
       subst hcap
       have hpos : 0 < i.size := by omega
       have hCeq : ∀ off, σ.cap (some ⟨a.block, off, none⟩) (OPEN + i.size) = (σ.room a.block - off) / i.size := by
        intro off; simp only [Place.cap]; rw [if_neg (Nat.not_lt.2 (Nat.le_add_right _ _)), Nat.add_sub_cancel_left]
       have ha' : a = ⟨a.block, a.off, none⟩ := by cases a; simp_all
       have hC : σ.cap (some a) (OPEN + i.size) = (σ.room a.block - a.off) / i.size := by
        have := hCeq a.off; rw [← ha'] at this; exact this
       have hcapl : σ.cap (some ⟨a.block, a.off + l * i.size, none⟩) (OPEN + i.size) = σ.cap (some a) (OPEN + i.size) - l := by
        rw [hCeq, hC, Nat.sub_add_eq, Nat.mul_comm l, Nat.sub_mul_div]
       have hlen : l ≤ kn := Nat.le_trans b1 (Nat.le_trans b2 b3)
       refine Runs.same r ?_ ?_
       ·simp only [ren,Option.map_some,hcapl]
        rw [← addr_off σ ⟨o1, o2⟩]
        have hpick : (if σ.cap (some a) (OPEN + i.size) = l then some (σ.addr a) else some ((σ.addr a).add (l * i.size))) = some ((σ.addr a).add (l * i.size)) := by
         split
         ·rename_i e0
          rcases hc.1 with hc1 | hc1
          ·have := lt_of_blt hc1; omega
          ·have : l = 0 := Nat.eq_of_beq_eq_true hc1
           subst this; simp [Addr.add]
         ·rfl
        simp [execOp, ho, e1, Instr.sliceAt, Instr.slice, run_und hT hty, hrun, run_size hT hi', hpick]
       ·rw [okv]
        refine ⟨rfl, o2, fun _ => ⟨by omega, ?_⟩⟩
        rw [hcapl]
        omega
     ·simp only [hvm,cond_true] at h
      obtain ⟨z, rfl⟩ := Option.isSome_iff_exists.1 hvm
      simp only at hrun
      cases hlt : Nat.blt m1 OPEN
      ·rw [hlt] at h; cases h
      ·rw [hlt] at h; cases h
       have hm1 : m1 - l < OPEN := by have := lt_of_blt hlt; omega
       refine Runs.same r ?_ ?_
       ·simp only [ren,Option.map_some]
        rw [show σ.cap (some ⟨a.block, a.off + (bif Nat.beq m1 l then 0 else l * i.size), none⟩) (m1 - l) = m1 - l from by simp [Place.cap, hm1]]
        rw [← pick_add ⟨o1, o2⟩]
        simp [execOp, ho, e1, Instr.sliceAt, Instr.slice, run_und hT hty, hrun, run_size hT hi', apply_ite]
       ·rw [okv]; exact ⟨rfl, o2, fun hc => by omega⟩
    ·cases h
   ·simp only [hcl,cond_true] at h
    have hcl' : cap < OPEN := lt_of_blt hcl
    split at h
    ·rename_i l h1 m1 hb
     have hrun := abounds_ok (P := P) hb B1 B2 B3 true w
     cases hlt : Nat.blt m1 OPEN
     ·rw [hlt] at h; cases h
     ·rw [hlt] at h
      have hm1 : m1 - l < OPEN := by have := lt_of_blt hlt; omega
      simp only [cond_true] at h
      split at h
      ·cases h
       simp only [ren,Option.map_none,Place.cap,hcl',if_true] at e1
       refine Runs.same r ?_ (by rw [okv]; exact hm1)
       simp [execOp, ho, e1, Instr.sliceAt, Instr.slice, run_und hT hty, hrun, run_size hT hi', ren, Place.cap, hm1]
      ·rename_i a
       cases h
       rw [okv] at e2
       obtain ⟨o1, o2, _⟩ := e2
       simp only [ren,Option.map_some,Place.cap,hcl',if_true] at e1
       refine Runs.same r ?_ ?_
       ·simp only [ren,Option.map_some,Place.cap,hm1,if_true]
        rw [← pick_add ⟨o1, o2⟩]
        simp [execOp, ho, e1, Instr.sliceAt, Instr.slice, run_und hT hty, hrun, run_size hT hi', apply_ite]
       ·rw [okv]; exact ⟨rfl, o2, fun hc => by omega⟩
    ·cases h
  ·cases h
 ·cases h
end Go.Am
