/- Cuts of slices, lengths, appended elements, copies. -/
import Derived.Test.YtaieoelbpnjoiaaT0
set_option linter.unusedSimpArgs false
set_option linter.unusedVariables false
namespace Go.Am
variable {T : Tab} {P : Program} {σ : Place} {H : AHeap} {w : World} {t : Operand → Option Value} {ρ : Operand → Value}
def abound (t : Operand → Option Value) : Option Operand → Option (Option Int)
 | none => some none
 | some x => match t x with
  | some (.int _ n) => some (some n)
  | _ => none
/-- The three bounds of a cut, where the greatest end is known. -/
def abounds (len cap : Nat) (lo hi mx : Option Int) : Option (Nat × Nat × Nat) :=
 let m : Option Nat := match mx with
  | none => some cap
  | some v => bif decide (0 ≤ v) && decide (v ≤ cap) then some v.toNat else none
 match m with
 | none => none
 | some m =>
  let h : Option Nat := match hi, mx with
   | none, none => some len
   | none, some _ => none
   | some v, _ => bif decide (0 ≤ v) && decide (v ≤ m) then some v.toNat else none
  match h with
  | none => none
  | some h =>
   let l : Option Nat := match lo with
    | none => some 0
    | some v => bif decide (0 ≤ v) && decide (v ≤ h) then some v.toNat else none
   match l with
   | none => none
   | some l => some (l, h, m)
/-- A bound in the model. -/
def isBound (v : Option Int) (x : Option Value) : Prop := match v, x with
 | none, none => True
 | some n, some (.int _ k) => k = n
 | _, _ => False
theorem abound_ok (hρ : Evals σ t ρ) {x : Option Operand} {v : Option Int} (h : abound t x = some v) : isBound v (x.map ρ) := by
 cases x with
 | none => simp only [abound,Option.some.injEq] at h; subst h; trivial
 | some x =>
  simp only [abound] at h
  split at h
  ·rename_i k n hx
   cases h
   have := (hρ _ _ hx).1
   simp only [ren] at this
   simp [isBound, this]
  ·cases h
theorem bound_cases {v : Option Int} {x : Option Value} (h : isBound v x) : (v = none ∧ x = none) ∨ ∃ n k, v = some n ∧ x = some (.int k n) := by
 cases v with
 | none =>
  cases x with
  | none => exact .inl ⟨rfl, rfl⟩
  | some u => cases u <;> exact h.elim
 | some n =>
  cases x with
  | none => exact h.elim
  | some u =>
   cases u with
   | int k m =>
    have e : m = n := h
    subst e; exact .inr ⟨m, k, rfl, rfl⟩
   | _ => exact h.elim
theorem run_bound (k : IntKind) (n : Int) (y : Nat) (code : BoundsCode) (w : World) (h : (decide (0 ≤ n) && decide (n ≤ y)) = true) :
  (Instr.sliceBound (.int k n) y code).run P w = .ok n.toNat w := by
 simp only [Bool.and_eq_true,decide_eq_true_eq] at h
 simp [Instr.sliceBound, asIntOf, h.1, h.2]
theorem abounds_ok {len cap : Nat} {lo hi mx : Option Int} {l h m : Nat} (hb : abounds len cap lo hi mx = some (l, h, m)) {xl xh xm : Option Value}
  (hl : isBound lo xl) (hh : isBound hi xh) (hm : isBound mx xm) (b : Bool) (w : World) :
  (Instr.sliceBounds b len cap xl xh xm).run P w = .ok (l, h, m) w := by
 unfold abounds at hb
 rcases bound_cases hm with ⟨rfl, rfl⟩ | ⟨nm, km, rfl, rfl⟩
 ·simp only at hb
  rcases bound_cases hh with ⟨rfl, rfl⟩ | ⟨nh, kh, rfl, rfl⟩
  ·simp only at hb
   rcases bound_cases hl with ⟨rfl, rfl⟩ | ⟨nl, kl, rfl, rfl⟩
   ·simp only [Option.some.injEq,Prod.mk.injEq] at hb
    obtain ⟨rfl, rfl, rfl⟩ := hb
    rfl
   ·cases q1 : (decide (0 ≤ nl) && decide (nl ≤ len))
    ·simp only [q1,cond_false,reduceCtorEq] at hb
    ·simp only [q1,cond_true,Option.some.injEq,Prod.mk.injEq] at hb
     obtain ⟨rfl, rfl, rfl⟩ := hb
     simp [Instr.sliceBounds, run_bound (P := P) kl nl len _ w q1]
  ·cases q2 : (decide (0 ≤ nh) && decide (nh ≤ cap))
   ·simp only [q2,cond_false,reduceCtorEq] at hb
   ·simp only [q2,cond_true] at hb
    rcases bound_cases hl with ⟨rfl, rfl⟩ | ⟨nl, kl, rfl, rfl⟩
    ·simp only [Option.some.injEq,Prod.mk.injEq] at hb
     obtain ⟨rfl, rfl, rfl⟩ := hb
     simp [Instr.sliceBounds, run_bound (P := P) kh nh cap _ w q2]
    ·cases q1 : (decide (0 ≤ nl) && decide (nl ≤ nh.toNat))
     ·simp only [q1,cond_false,reduceCtorEq] at hb
     ·simp only [q1,cond_true,Option.some.injEq,Prod.mk.injEq] at hb
      obtain ⟨rfl, rfl, rfl⟩ := hb
      simp [Instr.sliceBounds, run_bound (P := P) kh nh cap _ w q2, run_bound (P := P) kl nl nh.toNat _ w q1]
 ·cases q3 : (decide (0 ≤ nm) && decide (nm ≤ cap))
  ·simp only [q3,cond_false,reduceCtorEq] at hb
  ·simp only [q3,cond_true] at hb
   rcases bound_cases hh with ⟨rfl, rfl⟩ | ⟨nh, kh, rfl, rfl⟩
   ·simp at hb
   ·cases q2 : (decide (0 ≤ nh) && decide (nh ≤ nm.toNat))
    ·simp only [q2,cond_false,reduceCtorEq] at hb
    ·simp only [q2,cond_true] at hb
     rcases bound_cases hl with ⟨rfl, rfl⟩ | ⟨nl, kl, rfl, rfl⟩
     ·simp only [Option.some.injEq,Prod.mk.injEq] at hb
      obtain ⟨rfl, rfl, rfl⟩ := hb
      simp [Instr.sliceBounds, run_bound (P := P) km nm cap _ w q3, run_bound (P := P) kh nh nm.toNat _ w q2]
     ·cases q1 : (decide (0 ≤ nl) && decide (nl ≤ nh.toNat))
      ·simp only [q1,cond_false,reduceCtorEq] at hb
      ·simp only [q1,cond_true,Option.some.injEq,Prod.mk.injEq] at hb
       obtain ⟨rfl, rfl, rfl⟩ := hb
       simp [Instr.sliceBounds, run_bound (P := P) km nm cap _ w q3, run_bound (P := P) kh nh nm.toNat _ w q2, run_bound (P := P) kl nl nh.toNat _ w q1]
theorem le_of_q {n : Int} {y : Nat} (h : (decide (0 ≤ n) && decide (n ≤ y)) = true) : n.toNat ≤ y := by
 simp only [Bool.and_eq_true,decide_eq_true_eq] at h; omega
theorem abounds_le {len cap : Nat} {lo hi mx : Option Int} {l h m : Nat} (hb : abounds len cap lo hi mx = some (l, h, m)) (hlc : len ≤ cap) : l ≤ h ∧ h ≤ m ∧ m ≤ cap ∧ (mx = none → m = cap) := by
 unfold abounds at hb
 cases mx with
 | none =>
  simp only at hb
  cases hi with
  | none =>
   simp only at hb
   cases lo with
   | none =>
    simp only [Option.some.injEq,Prod.mk.injEq] at hb
    omega
   | some nl =>
    cases q1 : (decide (0 ≤ nl) && decide (nl ≤ len))
    ·simp only [q1,cond_false,reduceCtorEq] at hb
    ·simp only [q1,cond_true,Option.some.injEq,Prod.mk.injEq] at hb
     have := le_of_q q1
     omega
  | some nh =>
   cases q2 : (decide (0 ≤ nh) && decide (nh ≤ cap))
   ·simp only [q2,cond_false,reduceCtorEq] at hb
   ·simp only [q2,cond_true] at hb
    have := le_of_q q2
    cases lo with
    | none =>
     simp only [Option.some.injEq,Prod.mk.injEq] at hb
     omega
    | some nl =>
     cases q1 : (decide (0 ≤ nl) && decide (nl ≤ nh.toNat))
     ·simp only [q1,cond_false,reduceCtorEq] at hb
     ·simp only [q1,cond_true,Option.some.injEq,Prod.mk.injEq] at hb
      have := le_of_q q1
      omega
 | some nm =>
  cases q3 : (decide (0 ≤ nm) && decide (nm ≤ cap))
  ·simp only [q3,cond_false,reduceCtorEq] at hb
  ·simp only [q3,cond_true] at hb
   have := le_of_q q3
   cases hi with
   | none => simp only [reduceCtorEq] at hb
   | some nh =>
    cases q2 : (decide (0 ≤ nh) && decide (nh ≤ nm.toNat))
    ·simp only [q2,cond_false,reduceCtorEq] at hb
    ·simp only [q2,cond_true] at hb
     have := le_of_q q2
     cases lo with
     | none =>
      simp only [Option.some.injEq,Prod.mk.injEq] at hb
      exact ⟨by omega, by omega, by omega, fun h => by cases h⟩
     | some nl =>
      cases q1 : (decide (0 ≤ nl) && decide (nl ≤ nh.toNat))
      ·simp only [q1,cond_false,reduceCtorEq] at hb
      ·simp only [q1,cond_true,Option.some.injEq,Prod.mk.injEq] at hb
       have := le_of_q q1
       exact ⟨by omega, by omega, by omega, fun h => by cases h⟩
/-- Bounds that hold up to a length hold up to more, where the last one is not named. -/
theorem abounds_more {len kn cap : Nat} {lo hi mx : Option Int} {l h m : Nat} (hb : abounds len kn lo hi mx = some (l, h, m)) (hlc : kn ≤ cap) :
  abounds len cap lo hi mx = some (l, h, match mx with | none => cap | some _ => m) := by
 unfold abounds at hb ⊢
 cases mx with
 | none =>
  simp only at hb ⊢
  cases hi with
  | none =>
   simp only at hb ⊢
   cases lo with
   | none =>
    simp only [Option.some.injEq,Prod.mk.injEq] at hb ⊢
    exact ⟨by omega, by omega, by first | rfl | trivial⟩
   | some nl =>
    cases q1 : (decide (0 ≤ nl) && decide (nl ≤ len))
    ·simp only [q1,cond_false,reduceCtorEq] at hb
    ·simp only [q1,cond_true,Option.some.injEq,Prod.mk.injEq] at hb ⊢
     exact ⟨by omega, by omega, by first | rfl | trivial⟩
  | some nh =>
   cases q2 : (decide (0 ≤ nh) && decide (nh ≤ kn))
   ·simp only [q2,cond_false,reduceCtorEq] at hb
   ·have q2' : (decide (0 ≤ nh) && decide (nh ≤ cap)) = true := by
     simp only [Bool.and_eq_true,decide_eq_true_eq] at q2 ⊢; omega
    simp only [q2,q2',cond_true] at hb ⊢
    cases lo with
    | none =>
     simp only [Option.some.injEq,Prod.mk.injEq] at hb ⊢
     exact ⟨by omega, by omega, by first | rfl | trivial⟩
    | some nl =>
     cases q1 : (decide (0 ≤ nl) && decide (nl ≤ nh.toNat))
     ·simp only [q1,cond_false,reduceCtorEq] at hb
     ·simp only [q1,cond_true,Option.some.injEq,Prod.mk.injEq] at hb ⊢
      exact ⟨by omega, by omega, by first | rfl | trivial⟩
 | some nm =>
  cases q3 : (decide (0 ≤ nm) && decide (nm ≤ kn))
  ·simp only [q3,cond_false,reduceCtorEq] at hb
  ·have q3' : (decide (0 ≤ nm) && decide (nm ≤ cap)) = true := by
    simp only [Bool.and_eq_true,decide_eq_true_eq] at q3 ⊢; omega
   simp only [q3,q3',cond_true] at hb ⊢
   exact hb
theorem pick_add {σ : Place} {a : Addr} (ha : a.spot = none ∧ (σ.at_ a.block).isSome = true) (m l s : Nat) :
  (if m = l then σ.addr a else (σ.addr a).add (l * s)) = σ.addr ⟨a.block, a.off + (bif Nat.beq m l then 0 else l * s), none⟩ := by
 by_cases e : m = l
 ·have : Nat.beq m l = true := by subst e; simp
  simp only [e,if_true,Nat.beq_refl,cond_true,Nat.add_zero]
  obtain ⟨p, hp⟩ := Option.isSome_iff_exists.1 ha.2
  cases a; simp_all [Place.addr]
 ·rw [if_neg e, beq_ne e, cond_false, addr_off σ ha]
end Go.Am
/- Cuts of slices. -/
namespace Go.Am
variable {T : Tab} {P : Program} {σ : Place} {H : AHeap} {w : World} {t : Operand → Option Value} {ρ : Operand → Value}
/-- How far a slice is known to reach, where its end is open. -/
def known (H : AHeap) (a : Addr) (len size cap : Nat) : Nat :=
 bif Nat.beq cap (OPEN + size) then
  match H.get a.block with
  | .rw c _ _ _ => bif Nat.blt len ((c.length - a.off) / size) then (c.length - a.off) / size else len
  | _ => len
 else len
theorem known_ok (r : Rel σ H w) {a : Addr} {len size cap : Nat} (hp : (σ.at_ a.block).isSome = true) (h : len ≤ σ.cap (some a) cap) : len ≤ known H a len size cap ∧ known H a len size cap ≤ σ.cap (some a) cap := by
 unfold known
 cases hc : Nat.beq cap (OPEN + size)
 ·exact ⟨Nat.le_refl _, h⟩
 ·have := Nat.eq_of_beq_eq_true hc
  subst this
  simp only [cond_true]
  split
  ·rename_i c e o al hg
   cases hl : Nat.blt len ((c.length - a.off) / size)
   ·exact ⟨Nat.le_refl _, h⟩
   ·have hlt := lt_of_blt hl
    refine ⟨by simp only [cond_true]; omega, ?_⟩
    obtain ⟨p, hp⟩ := Option.isSome_iff_exists.1 hp
    obtain ⟨b, s⟩ := p
    have hh := r.holds _ _ _ hp
    rw [hg] at hh
    obtain ⟨_, _, rest, _, h3, _⟩ := hh
    simp only [cond_true,Place.cap]
    rw [if_neg (Nat.not_lt.2 (Nat.le_add_right _ _)), Nat.add_sub_cancel_left]
    exact Nat.div_le_div_right (by omega)
  ·exact ⟨Nat.le_refl _, h⟩
def aSlice (T : Tab) (t : Operand → Option Value) (H : AHeap) (ty : TypeId) (x : Operand) (lo hi mx : Option Operand) : Option (Value × AHeap × Nat) :=
 match t x, T.und ty, abound t lo, abound t hi, abound t mx with
 | some (.pointer (some a)), some (.array n e), some vl, some vh, some vm =>
  match T.inf e, abounds n n vl vh vm with
  | some i, some (l, h, m) => bif Nat.blt m OPEN then
    some (.slice (some ⟨a.block, a.off + (bif Nat.beq m l then 0 else l * i.size), none⟩) (h - l) (m - l), H, H.size) else none
  | _, _ => none
 | some (.slice a len cap), some (.slice e), some vl, some vh, some vm =>
  match T.inf e with
  | some i =>
   bif Nat.blt cap OPEN then
    match abounds len cap vl vh vm with
    | some (l, h, m) => bif Nat.blt m OPEN then
      match a with
      | none => some (.slice none (h - l) (m - l), H, H.size)
      | some a => some (.slice (some ⟨a.block, a.off + (bif Nat.beq m l then 0 else l * i.size), none⟩) (h - l) (m - l), H, H.size)
     else none
    | none => none
   else
    match a with
    | none => none
    | some a =>
    match abounds len (known H a len i.size cap) vl vh vm with
    | some (l, h, m) =>
     bif vm.isSome then (bif Nat.blt m OPEN then some (.slice (some ⟨a.block, a.off + (bif Nat.beq m l then 0 else l * i.size), none⟩) (h - l) (m - l), H, H.size) else none)
     else bif (Nat.blt l (known H a len i.size cap) || Nat.beq l 0) && Nat.beq cap (OPEN + i.size) then
      some (.slice (some ⟨a.block, a.off + l * i.size, none⟩) (h - l) cap, H, H.size)
     else bif Nat.beq h l && Nat.blt a.off OPEN && Nat.blt l OPEN && Nat.blt i.size OPEN && Nat.beq cap (OPEN + i.size) then
      some (.chan (some (tailZ a.block a.off l i.size)), H, H.size)
     else none
    | _ => none
  | none => none
 | _, _, _, _, _ => none
theorem aSlice_ok (hT : T.Fits P) {o : Oper} {ty : TypeId} {x : Operand} {lo hi mx : Option Operand} (ho : o.op = .slice ty x lo hi mx) (r : Rel σ H w) (hρ : Evals σ t ρ) {v : Value} {H' : AHeap} {m : Nat}
  (h : aSlice T t H ty x lo hi mx = some (v, H', m)) : Runs P (execOp ρ o) σ H w v H' m := by
 unfold aSlice at h
 split at h
 ·rename_i a n e vl vh vm hx hty hl hh hm
  split at h
  ·rename_i i l h1 m1 hi' hb
   cases hlt : Nat.blt m1 OPEN
   ·rw [hlt] at h; cases h
   ·rw [hlt] at h; cases h
    obtain ⟨e1, e2⟩ := hρ _ _ hx
    simp only [okv] at e2
    simp only [ren,Option.map_some] at e1
    have hrun := abounds_ok (P := P) hb (abound_ok hρ hl) (abound_ok hρ hh) (abound_ok hρ hm) false w
    have hm1 : m1 - l < OPEN := by have := lt_of_blt hlt; omega
    refine Runs.same r ?_ ?_
    ·simp only [ren,Option.map_some,Place.cap,hm1,if_true]
     rw [← pick_add e2]
     simp [execOp, ho, e1, Instr.sliceAt, run_und hT hty, Instr.sureAddr, hrun, run_size hT hi']
    ·rw [okv]; exact ⟨rfl, e2.2, fun hc => by omega⟩
  ·cases h
 ·rename_i a len cap e vl vh vm hx hty hl hh hm
  obtain ⟨e1, e2⟩ := hρ _ _ hx
  have B1 := abound_ok hρ hl
  have B2 := abound_ok hρ hh
  have B3 := abound_ok hρ hm
  split at h
  ·rename_i i hi'
   cases hcl : Nat.blt cap OPEN
   ·-- open
    simp only [hcl,cond_false] at h
    split at h
    ·cases h
    rename_i a
    split at h
    ·rename_i l h1 m1 hb
     have hge : OPEN ≤ cap := by
      rcases Nat.lt_or_ge cap OPEN with h' | h'
      ·rw [blt_true h'] at hcl; cases hcl
      ·exact h'
     rw [okv] at e2
     obtain ⟨o1, o2, o3⟩ := e2
     obtain ⟨o4, o5⟩ := o3 hge
     simp only [ren,Option.map_some] at e1
     obtain ⟨kn1, kn2⟩ := known_ok (size := i.size) r o2 o5
     generalize hkn : known H a len i.size cap = kn at *
     obtain ⟨b1, b2, b3, b4⟩ := abounds_le hb kn1
     have hb' := abounds_more hb kn2
     have hrun := abounds_ok (P := P) hb' B1 B2 B3 true w
     cases hvm : vm.isSome
     ·simp only [hvm,cond_false] at h
      have hvn : vm = none := by simpa using hvm
      subst hvn
      simp only at hrun
      cases hc : ((Nat.blt l kn || Nat.beq l 0) && Nat.beq cap (OPEN + i.size))
      ·rw [hc] at h
       simp only [cond_false] at h
       cases hd : (Nat.beq h1 l && Nat.blt a.off OPEN && Nat.blt l OPEN && Nat.blt i.size OPEN && Nat.beq cap (OPEN + i.size))
       ·rw [hd] at h; cases h
       ·rw [hd] at h
        simp only [cond_true,Option.some.injEq,Prod.mk.injEq] at h
        obtain ⟨rfl, rfl, rfl⟩ := h
        simp only [Bool.and_eq_true] at hd
        obtain ⟨⟨⟨⟨d1, d2⟩, d3⟩, d4⟩, d5⟩ := hd
        have hcap : cap = OPEN + i.size := Nat.eq_of_beq_eq_true d5
        subst hcap
        obtain rfl : h1 = l := Nat.eq_of_beq_eq_true d1
        obtain ⟨D1, D2, D3, D4⟩ := tailZ_dec (k := a.block) (lt_of_blt d2) (lt_of_blt d3) (lt_of_blt d4)
        have ha' : (⟨a.block, a.off, none⟩ : Addr) = a := by cases a; simp_all
        have t1 : σ.tailC (tailZ a.block a.off h1 i.size) = σ.cap (some a) (OPEN + i.size) := by
         unfold Place.tailC
         rw [D4, D3, D1, ha']
        have t2 : σ.tailA (tailZ a.block a.off h1 i.size) = if σ.cap (some a) (OPEN + i.size) = h1 then some (σ.addr a) else some ((σ.addr a).add (h1 * i.size)) := by
         unfold Place.tailA
         rw [D4, D3, D2, D1, ha']
         simp only [t1]
        refine Runs.same r ?_ ?_
        ·simp only [ren,Option.getD_some,t1,t2,D2]
         simp [execOp, ho, e1, Instr.sliceAt, Instr.slice, run_und hT hty, hrun, run_size hT hi']
        ·simp only [okv,Option.getD_some,D4]
         exact o2
      ·rw [hc] at h; cases h
       simp only [Bool.and_eq_true,Bool.or_eq_true] at hc
       have hcap : cap = OPEN + i.size := Nat.eq_of_beq_eq_true hc.2
       subst hcap
       have hpos : 0 < i.size := by omega
       have hCeq : ∀ off, σ.cap (some ⟨a.block, off, none⟩) (OPEN + i.size) = (σ.room a.block - off) / i.size := by
        intro off; simp only [Place.cap]; rw [if_neg (Nat.not_lt.2 (Nat.le_add_right _ _)), Nat.add_sub_cancel_left]
       have ha' : a = ⟨a.block, a.off, none⟩ := by cases a; simp_all
       have hC : σ.cap (some a) (OPEN + i.size) = (σ.room a.block - a.off) / i.size := by
        have := hCeq a.off; rw [← ha'] at this; exact this
       have hcapl : σ.cap (some ⟨a.block, a.off + l * i.size, none⟩) (OPEN + i.size) = σ.cap (some a) (OPEN + i.size) - l := by
        rw [hCeq, hC, Nat.sub_add_eq, Nat.mul_comm l, Nat.sub_mul_div]
       have hlen : l ≤ kn := Nat.le_trans b1 (Nat.le_trans b2 b3)
       refine Runs.same r ?_ ?_
       ·simp only [ren,Option.map_some,hcapl]
        rw [← addr_off σ ⟨o1, o2⟩]
        have hpick : (if σ.cap (some a) (OPEN + i.size) = l then some (σ.addr a) else some ((σ.addr a).add (l * i.size))) = some ((σ.addr a).add (l * i.size)) := by
         split
         ·rename_i e0
          rcases hc.1 with hc1 | hc1
          ·have := lt_of_blt hc1; omega
          ·have : l = 0 := Nat.eq_of_beq_eq_true hc1
           subst this; simp [Addr.add]
         ·rfl
        simp [execOp, ho, e1, Instr.sliceAt, Instr.slice, run_und hT hty, hrun, run_size hT hi', hpick]
       ·rw [okv]
        refine ⟨rfl, o2, fun _ => ⟨by omega, ?_⟩⟩
        rw [hcapl]
        omega
     ·simp only [hvm,cond_true] at h
      obtain ⟨z, rfl⟩ := Option.isSome_iff_exists.1 hvm
      simp only at hrun
      cases hlt : Nat.blt m1 OPEN
      ·rw [hlt] at h; cases h
      ·rw [hlt] at h; cases h
       have hm1 : m1 - l < OPEN := by have := lt_of_blt hlt; omega
       refine Runs.same r ?_ ?_
       ·simp only [ren,Option.map_some]
        rw [show σ.cap (some ⟨a.block, a.off + (bif Nat.beq m1 l then 0 else l * i.size), none⟩) (m1 - l) = m1 - l from by simp [Place.cap, hm1]]
        rw [← pick_add ⟨o1, o2⟩]
        simp [execOp, ho, e1, Instr.sliceAt, Instr.slice, run_und hT hty, hrun, run_size hT hi', apply_ite]
       ·rw [okv]; exact ⟨rfl, o2, fun hc => by omega⟩
    ·cases h
   ·simp only [hcl,cond_true] at h
    have hcl' : cap < OPEN := lt_of_blt hcl
    split at h
    ·rename_i l h1 m1 hb
     have hrun := abounds_ok (P := P) hb B1 B2 B3 true w
     cases hlt : Nat.blt m1 OPEN
     ·rw [hlt] at h; cases h
     ·rw [hlt] at h
      have hm1 : m1 - l < OPEN := by have := lt_of_blt hlt; omega
      simp only [cond_true] at h
      split at h
      ·cases h
       simp only [ren,Option.map_none,Place.cap,hcl',if_true] at e1
       refine Runs.same r ?_ (by rw [okv]; exact hm1)
       simp [execOp, ho, e1, Instr.sliceAt, Instr.slice, run_und hT hty, hrun, run_size hT hi', ren, Place.cap, hm1]
      ·rename_i a
       cases h
       rw [okv] at e2
       obtain ⟨o1, o2, _⟩ := e2
       simp only [ren,Option.map_some,Place.cap,hcl',if_true] at e1
       refine Runs.same r ?_ ?_
       ·simp only [ren,Option.map_some,Place.cap,hm1,if_true]
        rw [← pick_add ⟨o1, o2⟩]
        simp [execOp, ho, e1, Instr.sliceAt, Instr.slice, run_und hT hty, hrun, run_size hT hi', apply_ite]
       ·rw [okv]; exact ⟨rfl, o2, fun hc => by omega⟩
    ·cases h
  ·cases h
 ·cases h
end Go.Am
/- Appended elements, lengths, copies, cleared cells. -/
namespace Go.Am
variable {T : Tab} {P : Program} {σ : Place} {H : AHeap} {w : World} {t : Operand → Option Value} {ρ : Operand → Value}
def srcCells (H : AHeap) (a : Addr) (n : Nat) : Option (List Value) :=
 match cellsOf (H.get a.block) with
 | some c => bif Nat.beq ((c.drop a.off).take n).length n then some ((c.drop a.off).take n) else none
 | none => none
theorem add_shift (b s off j : Nat) : (⟨b, s + off, none⟩ : Addr).add j = ⟨b, s + (off + j), none⟩ := by
 unfold Addr.add; split
 ·rename_i h0; subst h0; simp
 ·simp [Nat.add_assoc]
theorem srcCells_ok (r : Rel σ H w) {a : Addr} {n : Nat} {l : List Value} (ha : a.spot = none ∧ (σ.at_ a.block).isSome = true) (h : srcCells H a n = some l) :
  l.length = n ∧ (∀ v ∈ l, okv σ v) ∧ ∀ j v, (l.map (ren σ))[j]? = some v → w.cell? ((σ.addr a).add j) = some v := by
 unfold srcCells at h
 split at h
 ·rename_i c hc
  cases hl : Nat.beq ((c.drop a.off).take n).length n
  ·rw [hl] at h; cases h
  ·rw [hl] at h
   simp only [cond_true,Option.some.injEq] at h
   subst h
   obtain ⟨p, hp⟩ := Option.isSome_iff_exists.1 ha.2
   obtain ⟨b, s⟩ := p
   have hadd : σ.addr a = ⟨b, s + a.off, none⟩ := by simp [Place.addr, hp]
   have hcell := r.cells hp hc
   have hget : ∀ j v, ((c.drop a.off).take n)[j]? = some v → c[a.off + j]? = some v := by
    intro j v hj
    rw [List.getElem?_take] at hj
    split at hj
    ·rwa [List.getElem?_drop] at hj
    ·cases hj
   refine ⟨Nat.eq_of_beq_eq_true hl, fun v hv => ?_, fun j v hj => ?_⟩
   ·obtain ⟨j, hj⟩ := List.getElem?_of_mem hv
    exact (hcell _ _ (hget j v hj)).1
   ·rw [List.getElem?_map] at hj
    cases hu : ((c.drop a.off).take n)[j]? with
    | none => rw [hu] at hj; cases hj
    | some u =>
     rw [hu] at hj; simp only [Option.map_some,Option.some.injEq] at hj; subst hj
     rw [hadd, add_shift]
     exact (hcell _ _ (hget j u hu)).2
 ·cases h
theorem run_append_zero (ty t' e : TypeId) (i : TypeInfo) (ht : P.underlying t' = some (.slice e)) (hi : P.info? e = some i)
  (base xa : Option Addr) (sl sc xc : Nat) (h : sl ≤ sc) :
  (Builtin.append_ #[t', t'] ty #[.slice base sl sc, .slice xa 0 xc]).run P w = .ok (.slice base sl sc) w := by
 have hf : (Builtin.firstCells i.size 0 (.slice xa 0 xc)).run P w = .ok #[] w := by
  cases xa with
  | none => simp [Builtin.firstCells]
  | some a => simp [Builtin.firstCells, loadCells, loadCellsFrom]
 cases base <;> simp [Builtin.append_, run_underlying ht, sizeOf, typeInfo, hi, Builtin.lenOf, h, hf, storeCells]
theorem run_append_inplace (ty t' e : TypeId) (i : TypeInfo) (ht : P.underlying t' = some (.slice e)) (hi : P.info? e = some i)
  (a x : Addr) (sl sc n xc : Nat) (news : List Value) (hl : news.length = n * i.size) (hnews : ∀ j u, news[j]? = some u → w.cell? (x.add j) = some u)
  (h : sl + n ≤ sc) {w' : World} (hst : (storeCells (a.add (sl * i.size)) news 0).run P w = .ok () w') :
  (Builtin.append_ #[t', t'] ty #[.slice (some a) sl sc, .slice (some x) n xc]).run P w = .ok (.slice (some a) (sl + n) sc) w' := by
 have hf := run_firstCells_some (P := P) w i.size n x n xc news hl hnews
 simp [Builtin.append_, run_underlying ht, sizeOf, typeInfo, hi, Builtin.lenOf, h, hf, hst]
/-- A new block for what was there and what is appended. -/
theorem grown_ok (r : Rel σ H w) (c : List Value) (hc : ∀ v ∈ c, okv σ v) (e : TypeId) (need G size : Nat) (hlen : c.length = need * size) (hsz : 0 < size) (hG : need ≤ G) (zs : List Value)
  (hz : zs.length = (G - need) * size) :
  Rel (σ.add H.size w.heap.size (G * size)) (H.alloc (.rw c e true [])) (w.drew.alloc (.cells ((c.map (ren σ)) ++ zs).toArray e)) ∧
  Ext σ H w (σ.add H.size w.heap.size (G * size)) (H.alloc (.rw c e true [])) (w.drew.alloc (.cells ((c.map (ren σ)) ++ zs).toArray e)) H.size ∧
  okv (σ.add H.size w.heap.size (G * size)) (.slice (some ⟨H.size, 0, none⟩) need (OPEN + size)) ∧
  ren (σ.add H.size w.heap.size (G * size)) (.slice (some ⟨H.size, 0, none⟩) need (OPEN + size)) = .slice (some ⟨w.heap.size, 0, none⟩) need G := by
 have r' : Rel σ H w.drew := r.heap_eq rfl
 have hcap : (σ.add H.size w.heap.size (G * size)).cap (some ⟨H.size, 0, none⟩) (OPEN + size) = G := by
  simp only [Place.cap,Place.room_same]
  rw [if_neg (Nat.not_lt.2 (Nat.le_add_right _ _)), Nat.add_sub_cancel_left, Nat.sub_zero, Nat.mul_div_cancel _ hsz]
 refine ⟨?_, ?_, ?_, ?_⟩
 ·refine r'.alloc _ _ _ ⟨rfl, fun v hv => (r'.agree_add _ _).okv (hc v hv), zs, ?_, ?_, fun h => by cases h⟩ (.inr ⟨[], rfl⟩)
  ·rw [(r.agree_add _ _).map hc]
   exact World.alloc_heap_new w.drew _
  ·rw [hlen, hz, ← Nat.add_mul]; congr 1; omega
 ·have h1 := Ext.heap_eq (w' := w.drew) r rfl rfl rfl rfl
  have h2 := Ext.alloc r' (.cells ((c.map (ren σ)) ++ zs).toArray e) (.rw c e true []) (G * size)
  have := h1.trans h2
  rwa [Nat.min_self] at this
 ·rw [okv]
  refine ⟨rfl, by simp [Place.add_same], fun _ => ⟨by omega, ?_⟩⟩
  rw [hcap]; exact hG
 ·simp only [ren,Option.map_some,hcap]
  simp [Place.addr, Place.add_same]
def aAppend (T : Tab) (t : Operand → Option Value) (H : AHeap) (tys : Array TypeId) (args : Array Operand) : Option (Value × AHeap × Nat) :=
 match tys.toList, args.toList with
 | [ty, ty'], [s, x] =>
  bif Nat.beq ty ty' then
   match T.und ty, t s, t x with
   | some (.slice e), some (.slice base sl sc), some (.slice xa n xc) =>
    match T.inf e with
    | some i =>
     bif Nat.beq n 0 then
      (bif Nat.ble OPEN sc || Nat.ble sl sc then some (.slice base sl sc, H, H.size) else none)
     else match xa with
     | none => none
     | some xa =>
      match srcCells H xa (n * i.size), i.zero with
      | some news, some z =>
       bif Nat.blt 0 i.size && Nat.beq z.cells.size i.size && Nat.ble (sl + n) 9223372036854775807 && Nat.ble ((sl + n) * i.bytes) 140737488355328 && oneCells news then
        match base with
        | none =>
         bif Nat.beq sl 0 && Nat.beq sc 0 then
          some (.slice (some ⟨H.size, 0, none⟩) n (OPEN + i.size), H.alloc (.rw news e true []), H.size)
         else none
        | some a =>
         bif Nat.blt sc OPEN then
          bif Nat.ble (sl + n) sc then
           match aWrite H a.block (a.off + sl * i.size) news with
           | some (H', m) => some (.slice (some a) (sl + n) sc, H', m)
           | none => none
          else match srcCells H a (sl * i.size) with
           | some olds => some (.slice (some ⟨H.size, 0, none⟩) (sl + n) (OPEN + i.size), H.alloc (.rw (olds ++ news) e true []), H.size)
           | none => none
         else bif Nat.ble (sl + n) (known H a sl i.size sc) then
          match aWrite H a.block (a.off + sl * i.size) news with
          | some (H', m) => some (.slice (some a) (sl + n) sc, H', m)
          | none => none
         else match H.get a.block with
          | .rw c e' true al =>
           bif Nat.beq e e' && Nat.beq a.off 0 && Nat.beq c.length (sl * i.size) && Nat.beq sc (OPEN + i.size) then
            some (.slice (some ⟨H.size, 0, none⟩) (sl + n) (OPEN + i.size), ((H.kill al).put a.block (.ro c)).alloc (.rw (c ++ news) e true [a.block]), minAl a.block al)
           else none
          | _ => none
       else none
      | _, _ => none
    | none => none
   | some (.slice e), some (.slice base sl sc), some (.chan _) =>
    match T.inf e with
    | some _ => (bif Nat.ble OPEN sc || Nat.ble sl sc then some (.slice base sl sc, H, H.size) else none)
    | none => none
   | _, _, _ => none
  else none
 | _, _ => none
theorem exec_builtin {o : Oper} {b : Builtin} {args : Array Operand} {tys : Array TypeId} (ho : o.op = .call { callee := .builtin b, args, argTypes := tys }) :
  execOp ρ o = builtin b tys o.type (args.map fun | .const _ => true | _ => false) (args.map ρ) := by
 simp only [execOp,ho,resolve,invoke]; rfl
theorem aAppend_ok (hT : T.Fits P) {o : Oper} {tys : Array TypeId} {args : Array Operand} (ho : o.op = .call { callee := .builtin .append, args, argTypes := tys }) (r : Rel σ H w) (hρ : Evals σ t ρ)
  {v : Value} {H' : AHeap} {m : Nat} (h : aAppend T t H tys args = some (v, H', m)) : Runs P (execOp ρ o) σ H w v H' m := by
 unfold aAppend at h
 split at h
 ·rename_i ty ty' s x htys hargs
  cases hty : Nat.beq ty ty'
  ·rw [hty] at h; cases h
  ·rw [hty] at h
   simp only [cond_true] at h
   have := Nat.eq_of_beq_eq_true hty
   subst this
   obtain rfl : tys = #[ty, ty] := by apply Array.ext'; simpa using htys
   obtain rfl : args = #[s, x] := by apply Array.ext'; simpa using hargs
   split at h
   ·rename_i e base sl sc xa n xc hu hs hx
    obtain ⟨s1, s2⟩ := hρ _ _ hs
    obtain ⟨x1, x2⟩ := hρ _ _ hx
    simp only [ren] at s1 x1
    have hexec : execOp ρ o = (do pure (.value (← Builtin.append_ #[ty, ty] o.type #[ρ s, ρ x]))) := by rw [exec_builtin ho]; simp only [builtin,List.map_toArray,List.map_cons,List.map_nil]
    split at h
    ·rename_i i hi
     have hP := hT.und _ _ hu
     have hI := hT.inf _ _ hi
     cases hn : Nat.beq n 0
     ·simp only [hn,cond_false] at h
      have hn0 : 0 < n := Nat.pos_of_ne_zero fun e => by subst e; cases hn
      split at h
      ·cases h
      ·rename_i xa
       rw [okv] at x2
       have xok : xa.spot = none ∧ (σ.at_ xa.block).isSome = true := ⟨x2.1, x2.2.1⟩
       simp only [Option.map_some] at x1
       split at h
       ·rename_i news z hnews hz
        obtain ⟨n1, n2, n3⟩ := srcCells_ok r xok hnews
        cases hb : (Nat.blt 0 i.size && Nat.beq z.cells.size i.size && Nat.ble (sl + n) 9223372036854775807 && Nat.ble ((sl + n) * i.bytes) 140737488355328 && oneCells news)
        ·rw [hb] at h; cases h
        ·rw [hb] at h
         simp only [cond_true] at h
         simp only [Bool.and_eq_true] at hb
         obtain ⟨⟨⟨⟨b1, b2⟩, b3⟩, b4⟩, b5⟩ := hb
         have hsz : 0 < i.size := lt_of_blt b1
         have hzs : z.cells.size = i.size := Nat.eq_of_beq_eq_true b2
         have h63 : sl + n ≤ 9223372036854775807 := Nat.le_of_ble_eq_true b3
         have h47 : (sl + n) * i.bytes ≤ 140737488355328 := Nat.le_of_ble_eq_true b4
         have zlen : ∀ k, (Builtin.zeroCells z.cells k).toList.length = k * i.size := fun k => by
          have := size_zeroCells z.cells k; rw [hzs] at this; simpa using this
         split at h
         ·-- nil
          cases hb0 : (Nat.beq sl 0 && Nat.beq sc 0)
          ·rw [hb0] at h; cases h
          ·rw [hb0] at h
           simp only [cond_true] at h
           cases h
           simp only [Bool.and_eq_true] at hb0
           obtain rfl : sl = 0 := Nat.eq_of_beq_eq_true hb0.1
           obtain rfl : sc = 0 := Nat.eq_of_beq_eq_true hb0.2
           have hc0 : σ.cap none 0 = 0 := by simp [Place.cap, OPEN]
           simp only [Option.map_none,hc0] at s1
           simp only [Nat.zero_add] at h63 h47
           have hrun := run_append_nil (P := P) w ty o.type e i z hP hI hz (σ.addr xa) n (σ.cap (some xa) xc) (news.map (ren σ)) (by rw [List.length_map, n1]) n3 hn0 (by omega) (by omega)
           obtain ⟨g1, g2, g3, g4⟩ := grown_ok r news n2 e n (grownCap w n 0 e) i.size n1 hsz (grownCap_ge _ _ _ _) (Builtin.zeroCells z.cells (grownCap w n 0 e - n)).toList (zlen _)
           refine ⟨_, _, _, ?_, .inl rfl, g3, g1, g2⟩
           rw [g4, hexec, s1, x1]
           simp only [Sem.run_bind,hrun,Result.andThen_ok,Sem.run_pure]
           congr 3
           apply Array.ext'; simp
         ·rename_i a
          rw [okv] at s2
          have aok : a.spot = none ∧ (σ.at_ a.block).isSome = true := ⟨s2.1, s2.2.1⟩
          simp only [Option.map_some] at s1
          cases hcl : Nat.blt sc OPEN
          ·-- open
           simp only [hcl,cond_false] at h
           have hge : OPEN ≤ sc := by
            rcases Nat.lt_or_ge sc OPEN with h' | h'
            ·rw [blt_true h'] at hcl; cases hcl
            ·exact h'
           obtain ⟨o4, o5⟩ := s2.2.2 hge
           cases hkn : Nat.ble (sl + n) (known H a sl i.size sc)
           rotate_left
           ·rw [hkn] at h
            simp only [cond_true] at h
            have hle : sl + n ≤ σ.cap (some a) sc := Nat.le_trans (Nat.le_of_ble_eq_true hkn) (known_ok r aok.2 o5).2
            split at h
            ·rename_i H1 m1 hw
             cases h
             obtain ⟨p, hp⟩ := Option.isSome_iff_exists.1 aok.2
             obtain ⟨b, sh⟩ := p
             obtain ⟨w', h5, h6, h7⟩ := aWrite_ok (P := P) r hp n2 hw
             have hst : (storeCells ((σ.addr a).add (sl * i.size)) (news.map (ren σ)) 0).run P w = .ok () w' := by
              rw [show σ.addr a = ⟨b, sh + a.off, none⟩ from by simp [Place.addr, hp], add_shift]; exact h5
             have hrun := run_append_inplace (P := P) (w := w) o.type ty e i hP hI (σ.addr a) (σ.addr xa) sl (σ.cap (some a) sc) n (σ.cap (some xa) xc) (news.map (ren σ)) (by rw [List.length_map, n1]) n3 hle hst
             refine ⟨σ, w', _, ?_, .inl rfl, ?_, h6, h7⟩
             ·rw [hexec, s1, x1]
              simp only [Sem.run_bind,hrun,Result.andThen_ok,Sem.run_pure,ren,Option.map_some]
             ·rw [okv]; exact ⟨s2.1, s2.2.1, fun _ => ⟨o4, hle⟩⟩
            ·cases h
           rw [hkn] at h
           simp only [cond_false] at h
           split at h
           ·rename_i c e' al hget
            cases hb6 : (Nat.beq e e' && Nat.beq a.off 0 && Nat.beq c.length (sl * i.size) && Nat.beq sc (OPEN + i.size))
            ·rw [hb6] at h; cases h
            ·rw [hb6] at h
             simp only [cond_true] at h
             cases h
             simp only [Bool.and_eq_true] at hb6
             obtain ⟨⟨⟨c1, c2⟩, c3⟩, c4⟩ := hb6
             obtain rfl : e = e' := Nat.eq_of_beq_eq_true c1
             have hoff : a.off = 0 := Nat.eq_of_beq_eq_true c2
             have hclen : c.length = sl * i.size := Nat.eq_of_beq_eq_true c3
             obtain rfl : sc = OPEN + i.size := Nat.eq_of_beq_eq_true c4
             obtain ⟨p, hp⟩ := Option.isSome_iff_exists.1 aok.2
             obtain ⟨b, sh⟩ := p
             have hold := r.holds _ _ _ hp
             rw [hget] at hold
             obtain ⟨h0, h1, rest, h2, h3, _⟩ := hold
             subst h0
             have haddr : σ.addr a = ⟨b, 0, none⟩ := by simp [Place.addr, hp, hoff]
             have hC : σ.cap (some a) (OPEN + i.size) = σ.room a.block / i.size := by
              simp only [Place.cap]
              rw [if_neg (Nat.not_lt.2 (Nat.le_add_right _ _)), Nat.add_sub_cancel_left, hoff, Nat.sub_zero]
             have hlenC := (s2.2.2 hge).2
             rw [hC] at hlenC s1
             rw [haddr] at s1
             have hbsz : b < w.heap.size := (r.lt _ _ _ hp).2
             have hcell : ∀ i v, c[i]? = some v → w.cell? ⟨b, i, none⟩ = some (ren σ v) := fun j v hj => by
              have := (r.cells hp (by rw [hget]; rfl) j v hj).2
              rwa [Nat.zero_add] at this
             have hma := minAl_le a.block al
             by_cases hroom : sl + n ≤ σ.room a.block / i.size
             ·-- in place
              have hfits : (sl + n) * i.size ≤ σ.room a.block := by
               have := Nat.mul_le_mul_right i.size hroom
               exact Nat.le_trans this (Nat.div_mul_le_self _ _)
              have hnl : (news.map (ren σ)).length = n * i.size := by rw [List.length_map, n1]
              rw [Nat.add_mul] at hfits
              have hrun := run_append_room (P := P) w ty o.type e i hP hI b sl (σ.room a.block / i.size) _ h2 (σ.addr xa) n (σ.cap (some xa) xc) (news.map (ren σ)) hnl n3
               (fun u hu => by obtain ⟨v, hv, rfl⟩ := List.mem_map.1 hu; rw [oneCell_ren]; exact oneCells_mem b5 v hv) hroom (by simp; omega)
              have hrow : ((c.map (ren σ) ++ rest).toArray.toList.take (sl * i.size) ++ news.map (ren σ) ++ (c.map (ren σ) ++ rest).toArray.toList.drop (sl * i.size + (news.map (ren σ)).length)) =
                (c ++ news).map (ren σ) ++ rest.drop (n * i.size) := by
               rw [hnl, ← hclen]
               simp only [List.map_append]
               rw [List.take_append_of_le_length (by simp), List.take_of_length_le (by simp)]
               congr 1
               rw [List.drop_append, List.drop_of_length_le (by simp)]
               simp
              rw [hrow] at hrun
              have hsame := heap_setRow_same w b ((c ++ news).map (ren σ) ++ rest.drop (n * i.size)).toArray _ _ _ h2
              have hNew : Holds (σ.add H.size b (σ.room a.block)) (w.setRow b ((c ++ news).map (ren σ) ++ rest.drop (n * i.size)).toArray) (σ.room a.block) b 0 (.rw (c ++ news) e true [a.block]) := by
               refine ⟨rfl, fun v hv => (r.agree_add _ _).okv ?_, rest.drop (n * i.size), ?_, ?_, fun h => by cases h⟩
               ·rcases List.mem_append.1 hv with hv | hv
                ·exact h1 v hv
                ·exact n2 v hv
               ·rw [(r.agree_add b (σ.room a.block)).map (l := c ++ news) (fun v hv => by
                 rcases List.mem_append.1 hv with hv | hv
                 ·exact h1 v hv
                 ·exact n2 v hv)]
                exact hsame
               ·simp; omega
              have hcell' : ∀ j v, c[j]? = some v → (w.setRow b ((c ++ news).map (ren σ) ++ rest.drop (n * i.size)).toArray).cell? ⟨b, j, none⟩ = some (ren σ v) := fun j v hj => by
               rw [cell_of_row _ b j _ _ _ hsame]
               have hjlt : j < c.length := (List.getElem?_eq_some_iff.1 hj).1
               simp only [List.getElem?_toArray,List.map_append,List.append_assoc]
               rw [List.getElem?_append_left (by simpa using hjlt), List.getElem?_map, hj]; rfl
              refine ⟨σ.add H.size b (σ.room a.block), _, _, ?_, .inl rfl, ?_, r.appended hp hget (by simp) (by simpa using hbsz) (.inl rfl) (fun j _ hj => heap_setRow_other _ _ _ hj) hcell' hNew,
               Ext.appended r hp (by simp) (.inl rfl) (fun j _ hj => heap_setRow_other _ _ _ hj) rfl rfl rfl hma.1 hma.2⟩
              ·rw [hexec, s1, x1]
               simp only [Sem.run_bind,hrun,Result.andThen_ok,Sem.run_pure,ren,Option.map_some]
               congr 2
               simp only [Place.addr,Place.add_same,Place.cap,Place.room_same]
               rw [if_neg (Nat.not_lt.2 (Nat.le_add_right _ _)), Nat.add_sub_cancel_left, Nat.sub_zero]
              ·rw [okv]
               refine ⟨rfl, by simp [Place.add_same], fun _ => ⟨by omega, ?_⟩⟩
               simp only [Place.cap,Place.room_same]
               rw [if_neg (Nat.not_lt.2 (Nat.le_add_right _ _)), Nat.add_sub_cancel_left, Nat.sub_zero]
               exact hroom
             ·-- a new block
              have hg' : σ.room a.block / i.size < sl + n := by omega
              have hrun := run_append_grow (P := P) w ty o.type e i z hP hI hz ⟨b, 0, none⟩ sl (σ.room a.block / i.size) (c.map (ren σ)) (by simpa using hclen)
               (fun j v hj => by
                rw [List.getElem?_map] at hj
                cases hu : c[j]? with
                | none => rw [hu] at hj; cases hj
                | some u =>
                 rw [hu] at hj; simp only [Option.map_some,Option.some.injEq] at hj; subst hj
                 have := add_shift b 0 0 j
                 simp only [Nat.zero_add] at this
                 rw [this]; exact hcell j u hu)
               (σ.addr xa) n (σ.cap (some xa) xc) (news.map (ren σ)) (by rw [List.length_map, n1]) n3 hg' (by omega) (growslice_fits hg' h47)
              generalize hG : grownCap w (sl + n) (σ.room a.block / i.size) e = G at hrun
              have hGe : sl + n ≤ G := by rw [← hG]; exact grownCap_ge _ _ _ _
              have harr : (c.map (ren σ)).toArray ++ (news.map (ren σ)).toArray ++ Builtin.zeroCells z.cells (G - (sl + n)) =
                ((c ++ news).map (ren σ) ++ (Builtin.zeroCells z.cells (G - (sl + n))).toList).toArray := by apply Array.ext'; simp
              rw [harr] at hrun
              have hNew : Holds (σ.add H.size w.heap.size (G * i.size)) (w.drew.alloc (.cells ((c ++ news).map (ren σ) ++ (Builtin.zeroCells z.cells (G - (sl + n))).toList).toArray e)) (G * i.size) w.heap.size 0 (.rw (c ++ news) e true [a.block]) := by
               refine ⟨rfl, fun v hv => (r.agree_add _ _).okv ?_, (Builtin.zeroCells z.cells (G - (sl + n))).toList, ?_, ?_, fun h => by cases h⟩
               ·rcases List.mem_append.1 hv with hv | hv
                ·exact h1 v hv
                ·exact n2 v hv
               ·rw [(r.agree_add w.heap.size (G * i.size)).map (l := c ++ news) (fun v hv => by
                 rcases List.mem_append.1 hv with hv | hv
                 ·exact h1 v hv
                 ·exact n2 v hv)]
                exact World.alloc_heap_new w.drew _
               ·rw [zlen, List.length_append, hclen, n1, ← Nat.add_mul, ← Nat.add_mul]; congr 1; omega
              have hold' : ∀ j, j < w.heap.size → j ≠ w.heap.size → (w.drew.alloc (.cells ((c ++ news).map (ren σ) ++ (Builtin.zeroCells z.cells (G - (sl + n))).toList).toArray e)).heap[j]? = w.heap[j]? :=
               fun j hj _ => heap_alloc_lt w.drew _ hj
              refine ⟨σ.add H.size w.heap.size (G * i.size), _, _, ?_, .inl rfl, ?_, r.appended hp hget (by simp) (by simp) (.inr (Nat.le_refl _)) hold' (fun j v hj => by
                rw [World.cell?_alloc_lt _ _ _ (by simpa using hbsz)]; exact hcell j v hj) hNew,
               Ext.appended r hp (by simp) (.inr (Nat.le_refl _)) hold' rfl rfl rfl hma.1 hma.2⟩
              ·rw [hexec, s1, x1]
               simp only [Sem.run_bind,hrun,Result.andThen_ok,Sem.run_pure,ren,Option.map_some]
               congr 2
               simp only [Place.addr,Place.add_same,Place.cap,Place.room_same]
               rw [if_neg (Nat.not_lt.2 (Nat.le_add_right _ _)), Nat.add_sub_cancel_left, Nat.sub_zero, Nat.mul_div_cancel _ hsz]
              ·rw [okv]
               refine ⟨rfl, by simp [Place.add_same], fun _ => ⟨by omega, ?_⟩⟩
               simp only [Place.cap,Place.room_same]
               rw [if_neg (Nat.not_lt.2 (Nat.le_add_right _ _)), Nat.add_sub_cancel_left, Nat.sub_zero, Nat.mul_div_cancel _ hsz]
               exact hGe
           ·cases h
          ·-- closed
           simp only [hcl,cond_true] at h
           have hcl' : sc < OPEN := lt_of_blt hcl
           have hcap : σ.cap (some a) sc = sc := by simp [Place.cap, hcl']
           rw [hcap] at s1
           cases hroom : Nat.ble (sl + n) sc
           ·simp only [hroom,cond_false] at h
            have hg' : sc < sl + n := by
             rcases Nat.lt_or_ge sc (sl + n) with h' | h'
             ·exact h'
             ·rw [Nat.ble_eq_true_of_le h'] at hroom; cases hroom
            split at h
            ·rename_i olds holds
             cases h
             obtain ⟨o1, o2, o3⟩ := srcCells_ok r aok holds
             have hrun := run_append_grow (P := P) w ty o.type e i z hP hI hz (σ.addr a) sl sc (olds.map (ren σ)) (by rw [List.length_map, o1]) o3 (σ.addr xa) n (σ.cap (some xa) xc) (news.map (ren σ))
              (by rw [List.length_map, n1]) n3 hg' (by omega) (growslice_fits hg' h47)
             obtain ⟨g1, g2, g3, g4⟩ := grown_ok r (olds ++ news) (fun v hv => by
               rcases List.mem_append.1 hv with hv | hv
               ·exact o2 v hv
               ·exact n2 v hv) e (sl + n) (grownCap w (sl + n) sc e) i.size (by rw [List.length_append, o1, n1, Nat.add_mul]) hsz (grownCap_ge _ _ _ _)
              (Builtin.zeroCells z.cells (grownCap w (sl + n) sc e - (sl + n))).toList (zlen _)
             refine ⟨_, _, _, ?_, .inl rfl, g3, g1, g2⟩
             rw [g4, hexec, s1, x1]
             simp only [Sem.run_bind,hrun,Result.andThen_ok,Sem.run_pure]
             congr 3
             apply Array.ext'; simp
            ·cases h
           ·simp only [hroom,cond_true] at h
            have hle : sl + n ≤ sc := Nat.le_of_ble_eq_true hroom
            split at h
            ·rename_i H1 m1 hw
             cases h
             obtain ⟨p, hp⟩ := Option.isSome_iff_exists.1 aok.2
             obtain ⟨b, sh⟩ := p
             obtain ⟨w', h5, h6, h7⟩ := aWrite_ok (P := P) r hp n2 hw
             have hst : (storeCells ((σ.addr a).add (sl * i.size)) (news.map (ren σ)) 0).run P w = .ok () w' := by
              rw [show σ.addr a = ⟨b, sh + a.off, none⟩ from by simp [Place.addr, hp], add_shift]; exact h5
             have hrun := run_append_inplace (P := P) (w := w) o.type ty e i hP hI (σ.addr a) (σ.addr xa) sl sc n (σ.cap (some xa) xc) (news.map (ren σ)) (by rw [List.length_map, n1]) n3 hle hst
             refine ⟨σ, w', _, ?_, .inl rfl, ?_, h6, h7⟩
             ·rw [hexec, s1, x1]
              simp only [Sem.run_bind,hrun,Result.andThen_ok,Sem.run_pure,ren,Option.map_some,hcap]
             ·rw [okv]; exact ⟨s2.1, s2.2.1, fun hc => by omega⟩
            ·cases h
       ·cases h
     ·simp only [hn,cond_true] at h
      obtain rfl : n = 0 := Nat.eq_of_beq_eq_true hn
      cases hb : (Nat.ble OPEN sc || Nat.ble sl sc)
      ·rw [hb] at h; cases h
      ·rw [hb] at h
       simp only [cond_true] at h
       cases h
       have hle : sl ≤ σ.cap base sc := by
        simp only [Bool.or_eq_true] at hb
        rcases Nat.lt_or_ge sc OPEN with h' | h'
        ·have e1 : σ.cap base sc = sc := by simp [Place.cap, h']
         rw [e1]
         rcases hb with hb | hb
         ·have := Nat.le_of_ble_eq_true hb; omega
         ·exact Nat.le_of_ble_eq_true hb
        ·cases base with
         | none => rw [okv] at s2; omega
         | some a => rw [okv] at s2; exact (s2.2.2 h').2
       have hrun := run_append_zero (P := P) (w := w) o.type ty e i hP hI (base.map σ.addr) (xa.map σ.addr) sl (σ.cap base sc) (σ.cap xa xc) hle
       refine Runs.same r ?_ s2
       rw [hexec, s1, x1]
       simp only [Sem.run_bind,hrun,Result.andThen_ok,Sem.run_pure,ren]
    ·cases h
   ·rename_i e base sl sc ch hu hs hx
    obtain ⟨s1, s2⟩ := hρ _ _ hs
    obtain ⟨x1, x2⟩ := hρ _ _ hx
    simp only [ren] at s1 x1
    have hexec : execOp ρ o = (do pure (.value (← Builtin.append_ #[ty, ty] o.type #[ρ s, ρ x]))) := by rw [exec_builtin ho]; simp only [builtin,List.map_toArray,List.map_cons,List.map_nil]
    split at h
    ·rename_i i hi
     have hP := hT.und _ _ hu
     have hI := hT.inf _ _ hi
     cases hb : (Nat.ble OPEN sc || Nat.ble sl sc)
     ·rw [hb] at h; cases h
     ·rw [hb] at h
      simp only [cond_true] at h
      cases h
      have hle : sl ≤ σ.cap base sc := by
       simp only [Bool.or_eq_true] at hb
       rcases Nat.lt_or_ge sc OPEN with h' | h'
       ·have e1 : σ.cap base sc = sc := by simp [Place.cap, h']
        rw [e1]
        rcases hb with hb | hb
        ·have := Nat.le_of_ble_eq_true hb; omega
        ·exact Nat.le_of_ble_eq_true hb
       ·cases base with
        | none => rw [okv] at s2; omega
        | some a => rw [okv] at s2; exact (s2.2.2 h').2
      have hrun := run_append_zero (P := P) (w := w) o.type ty e i hP hI (base.map σ.addr) (σ.tailA (ch.getD 0)) sl (σ.cap base sc) (σ.tailC (ch.getD 0) - ch.getD 0 / OPEN % OPEN) hle
      refine Runs.same r ?_ s2
      rw [hexec, s1, x1]
      simp only [Sem.run_bind,hrun,Result.andThen_ok,Sem.run_pure,ren]
    ·cases h
   ·cases h
 ·cases h
end Go.Am
/- Control: what it means that a piece of code, a call, an operation of the little machine is the model's. -/
namespace Go.Am
variable {T : Tab} {P : Program}
structure St where
 t : List Value
 H : AHeap
 ds : List Nat
def mark (σ : Place) (k : Nat) : Deferred := { target := .collected (σ.blk k), args := #[] }
structure ActRel (σ : Place) (s : St) (a : Act) : Prop where
 tmps : a.tmps = (s.t.map (ren σ)).toArray
 ok : ∀ v ∈ s.t, okv σ v
 ds : a.defers = s.ds.map (mark σ)
 dok : ∀ k ∈ s.ds, (σ.at_ k).isSome = true
theorem ActRel.evals {σ : Place} {s : St} {a : Act} (h : ActRel σ s a) : Evals σ (aval s.t) a.eval := by
 intro x v hx
 cases x with
 | tmp i =>
  simp only [aval,Option.some.injEq] at hx
  subst hx
  simp only [Act.eval,h.tmps]
  by_cases hi : i < s.t.length
  ·have e1 : s.t.getD i undef = s.t[i] := by simp [List.getD, hi]
   have e2 : (s.t.map (ren σ)).toArray.getD i undef = ren σ s.t[i] := by simp [Array.getD, hi]
   rw [e1, e2]
   exact ⟨rfl, h.ok _ (List.getElem_mem hi)⟩
  ·have e1 : s.t.getD i undef = undef := by simp [List.getD, List.getElem?_eq_none (Nat.le_of_not_lt hi)]
   have e2 : (s.t.map (ren σ)).toArray.getD i undef = undef := by simp [Array.getD, hi]
   rw [e1, e2, ren_undef]
   exact ⟨rfl, okv_undef σ⟩
 | const c =>
  simp only [aval] at hx
  cases hg : gr c
  ·rw [hg] at hx; cases hx
  ·rw [hg] at hx
   simp only [cond_true,Option.some.injEq] at hx
   subst hx
   obtain ⟨h1, h2⟩ := gr_ok σ hg
   exact ⟨by rw [h2]; rfl, h1⟩
 | global g => cases hx
 | func f =>
  simp only [aval,Option.some.injEq] at hx
  subst hx
  exact ⟨by simp [Act.eval, ren, Place.fn], by simp [okv, okfn]⟩
def tset (t : List Value) (d : Option Tmp) (v : Value) : List Value :=
 match d with
 | some d => t.set d v
 | none => t
theorem ActRel.agree {σ τ : Place} {s : St} {a : Act} (h : ActRel σ s a) (ha : Agree σ τ) (H' : AHeap) : ActRel τ { s with H := H' } a where
 tmps := by rw [ha.map h.ok]; exact h.tmps
 ok v hv := ha.okv (h.ok v hv)
 ds := by
  rw [h.ds]
  exact List.map_congr_left fun k hk => by simp [mark, ha.blk (h.dok k hk)]
 dok k hk := ha.placed (h.dok k hk)
theorem ActRel.put {σ : Place} {s : St} {a : Act} (h : ActRel σ s a) (d : Option Tmp) {v : Value} (hv : okv σ v) : ActRel σ { s with t := tset s.t d v } (a.put d (ren σ v)) := by
 cases d with
 | none => exact h
 | some d =>
  refine ⟨?_, fun u hu => ?_, h.ds, h.dok⟩
  ·simp [Act.put, tset, h.tmps, List.map_set]
  ·rcases List.mem_or_eq_of_mem_set hu with hu | rfl
   ·exact h.ok u hu
   ·exact hv
/-! ### Calls, rounds, code -/
/-- A call of yield of loop l. -/
def SYield (P : Program) (l : Nat) (args : List Value) (H : AHeap) (v : Value) (H' : AHeap) (m : Nat) : Prop :=
 ∀ (F : Fence) (n : Nat) (σ : Place) (w : World), Free F → Rel σ H w → (∀ x ∈ args, okv σ x) → (σ.at_ l).isSome = true →
  ∃ fn tmps assign body, (Instr.yield (σ.blk l) (args.map (ren σ)).toArray).run P w = .ok (.round (σ.blk l) fn tmps assign body) w ∧
   RoundIn F n P (σ.blk l) fn tmps assign body w fun e w' => ∃ σ', e = .returned (ren σ' v) ∧ okv σ' v ∧ Rel σ' H' w' ∧ Ext σ H w σ' H' w' m
/-- The frame of a round, or none. -/
def InR (r : Option Nat) (σ : Place) (F : Fence) : Prop := F.round = r.map σ.blk ∧ ∀ l, r = some l → (σ.at_ l).isSome = true
theorem InR.agree {r : Option Nat} {σ τ : Place} {F : Fence} (h : InR r σ F) (ha : Agree σ τ) : InR r τ F := by
 refine ⟨?_, fun l hl => ha.placed (h.2 l hl)⟩
 rw [h.1]
 cases r with
 | none => rfl
 | some l => simp [ha.blk (h.2 l rfl)]
def SPost (σ : Place) (s : St) (w : World) (e : Exit) (s' : St) (m : Nat) : Exit → Act → World → Prop :=
 fun e' a' w' => e' = e ∧ ∃ σ', ActRel σ' s' a' ∧ Rel σ' s'.H w' ∧ Ext σ s.H w σ' s'.H w' m
def SCode (P : Program) (r : Option Nat) (c : Code) (s : St) (e : Exit) (s' : St) (m : Nat) : Prop :=
 ∀ (F : Fence) (n : Nat) (σ : Place) (w : World) (a : Act), Free F → InR r σ F → Rel σ s.H w → ActRel σ s a → c.wpIn F n P (SPost σ s w e s' m) a w
theorem SPost.weaken {σ : Place} {s s' : St} {w w' : World} {e e' : Exit} {m m' : Nat} {a' : Act} (h : SPost σ s w e s' m e' a' w') (hm : m' ≤ m) : SPost σ s w e s' m' e' a' w' := by
 obtain ⟨h1, σ', h2, h3, h4⟩ := h
 exact ⟨h1, σ', h2, h3, h4.weaken hm⟩
theorem SCode.weaken {r : Option Nat} {c : Code} {s s' : St} {e : Exit} {m m' : Nat} (h : SCode P r c s e s' m) (hm : m' ≤ m) : SCode P r c s e s' m' :=
 fun F n σ w a hF hr hR hA => wpIn_mono (h F n σ w a hF hr hR hA) fun _ _ _ hq => hq.weaken hm
theorem SPost.trans {σ σ₁ : Place} {s s₁ s₂ : St} {w w₁ w₂ : World} {e e' : Exit} {m₁ m₂ : Nat} {a₂ : Act} (h : Ext σ s.H w σ₁ s₁.H w₁ m₁)
  (k : SPost σ₁ s₁ w₁ e s₂ m₂ e' a₂ w₂) : SPost σ s w e s₂ (min m₁ m₂) e' a₂ w₂ := by
 obtain ⟨h1, σ', h2, h3, h4⟩ := k
 exact ⟨h1, σ', h2, h3, h.trans h4⟩
theorem SCode.skip {r : Option Nat} {s : St} : SCode P r .skip s .normal s s.H.size :=
 fun _ _ σ _ _ _ _ hR hA => wpIn_skip ⟨rfl, σ, hA, hR, Ext.refl hR⟩
theorem SCode.label {r : Option Nat} {s : St} {l : Nat} : SCode P r (.label l) s .normal s s.H.size :=
 fun _ _ σ _ _ _ _ hR hA => wpIn_label ⟨rfl, σ, hA, hR, Ext.refl hR⟩
theorem SCode.exit {r : Option Nat} {s : St} {id : Nat} : SCode P r (.exit id) s (.exit id) s s.H.size :=
 fun _ _ σ _ _ _ _ hR hA => wpIn_exit ⟨rfl, σ, hA, hR, Ext.refl hR⟩
theorem SCode.ret {r : Option Nat} {s : St} : SCode P r .ret s .ret s s.H.size :=
 fun _ _ σ _ _ _ _ hR hA => wpIn_ret ⟨rfl, σ, hA, hR, Ext.refl hR⟩
theorem SCode.seq {r : Option Nat} {x y : Code} {s s₁ s₂ : St} {e : Exit} {m₁ m₂ : Nat} (hx : SCode P r x s .normal s₁ m₁) (hy : SCode P r y s₁ e s₂ m₂) :
  SCode P r (.seq x y) s e s₂ (min m₁ m₂) := by
 intro F n σ w a hF hr hR hA
 refine wpIn_seq (wpIn_mono (hx F n σ w a hF hr hR hA) ?_)
 rintro e' a' w' ⟨rfl, σ', h1, h2, h3⟩
 exact wpIn_mono (hy F n σ' w' a' hF (hr.agree (h3.agr hR)) h2 h1) fun _ _ _ hq => SPost.trans h3 hq
theorem SCode.seq_out {r : Option Nat} {x y : Code} {s s₁ : St} {e : Exit} {m₁ : Nat} (hx : SCode P r x s e s₁ m₁) (he : e ≠ .normal) :
  SCode P r (.seq x y) s e s₁ m₁ := by
 intro F n σ w a hF hr hR hA
 refine wpIn_seq (wpIn_mono (hx F n σ w a hF hr hR hA) ?_)
 rintro e' a' w' ⟨rfl, h⟩
 cases e' with
 | normal => exact absurd rfl he
 | _ => exact ⟨rfl, h⟩
theorem SCode.cond {r : Option Nat} {c : Operand} {x y : Code} {s s' : St} {e : Exit} {m : Nat} {b : Bool} (hc : aval s.t c = some (.bool b)) (h : SCode P r (bif b then x else y) s e s' m) :
  SCode P r (.cond c x y) s e s' m := by
 intro F n σ w a hF hr hR hA
 have := (hA.evals c _ hc).1
 simp only [ren] at this
 refine wpIn_cond this ?_
 cases b <;> exact h F n σ w a hF hr hR hA
def blockExit (id : Nat) : Exit → Exit
 | .exit id' => if id' = id then .normal else .exit id'
 | e => e
theorem SCode.block {r : Option Nat} {id : Nat} {c : Code} {s s' : St} {e : Exit} {m : Nat} (h : SCode P r c s e s' m) : SCode P r (.block id c) s (blockExit id e) s' m := by
 intro F n σ w a hF hr hR hA
 refine wpIn_block (wpIn_mono (h F n σ w a hF hr hR hA) ?_)
 rintro e' a' w' ⟨rfl, hq⟩
 cases e' with
 | exit id' =>
  simp only [Exit.inBlock,blockExit]
  split
  ·exact ⟨rfl, hq⟩
  ·exact ⟨rfl, hq⟩
 | _ => exact ⟨rfl, hq⟩
/-! ### Scopes: functions with labels, without goto -/
def ngo (Q : Exit → Act → World → Prop) : Exit → Act → World → Prop
 | .goto _, _, _ => False
 | e, a, w => Q e a w
theorem stepR_scope {b : Frame} {a : Act} {k : List Item} {cs : List Frame} {w : World} {c : Code} :
  step P (lone (b.atR a (.code (.scope c) :: k)) cs w) = .next (lone (b.atR a (.code c :: .inScope c :: k)) cs w) :=
 step_lone_go (by simp [stepG, stepG.exec, Frame.atR])
theorem stepR_inScope {b : Frame} {a : Act} {k : List Item} {cs : List Frame} {w : World} {c : Code} :
  step P (lone (b.atR a (.inScope c :: k)) cs w) = .next (lone (b.atR a k) cs w) :=
 step_lone_go (by simp [stepG, stepG.exec, Frame.atR])
theorem wpIn_scope {F : Fence} {n : Nat} {c : Code} {Q : Exit → Act → World → Prop} {a : Act} {w : World} (h : c.wpIn F n P (ngo Q) a w) : (Code.scope c).wpIn F n P Q a w := by
 intro b k cs hro hb hr
 have h0 : (lone (b.atR a (.code (.scope c) :: k)) cs w).fenced P F := fenced_calm hb hr rfl
 obtain ⟨e, a₁, w₁, hq, harr⟩ := h b (.inScope c :: k) cs hro hb hr
 cases e with
 | normal => exact ⟨.normal, a₁, w₁, hq, .head h0 stepR_scope (StepsIn.trans harr (.one (fenced_calm hb hr rfl) stepR_inScope))⟩
 | exit id' =>
  have hx : exitTo id' (.inScope c :: k) = exitTo id' k := by simp [exitTo]
  exact ⟨.exit id', a₁, w₁, hq, fun k' hk => .head h0 stepR_scope (harr.1 k' (by rw [hx]; exact hk)),
   fun hr' hk => let ⟨k₁, h1, h2⟩ := harr.2 hr' (by rw [hx]; exact hk); ⟨k₁, h1, .head h0 stepR_scope h2⟩⟩
 | goto l => exact hq.elim
 | ret => exact ⟨_, a₁, w₁, hq, .of_steps (.one h0 stepR_scope) harr⟩
 | panic ch => exact ⟨_, a₁, w₁, hq, .of_steps (.one h0 stepR_scope) harr⟩
 | outgrown => exact ⟨_, a₁, w₁, hq, .of_steps (.one h0 stepR_scope) harr⟩
theorem SCode.scope {r : Option Nat} {c : Code} {s s' : St} {e : Exit} {m : Nat} (h : SCode P r c s e s' m) (he : ∀ l, e ≠ .goto l) : SCode P r (.scope c) s e s' m := by
 intro F n σ w a hF hr hR hA
 refine wpIn_scope (wpIn_mono (h F n σ w a hF hr hR hA) ?_)
 rintro e' a' w' ⟨rfl, hq⟩
 cases e' with
 | goto l => exact absurd rfl (he l)
 | _ => exact ⟨rfl, hq⟩
/-! ### Loops -/
def LoopIn (F : Fence) (n : Nat) (P : Program) (c : Code) (Q : Exit → Act → World → Prop) (a : Act) (w : World) : Prop :=
 ∀ (b : Frame) (k : List Item) (cs : List Frame), b.roundOf = F.round → F.fn b.fn → F.room (cs.length + 1 + n) →
  ∃ e a' w', Q e a' w' ∧ ArrivesIn (Machine.fenced P F) P (lone (b.atR a (.code c :: .inLoop c :: k)) cs w) b k cs e a' w'
theorem loopIn_mono {F : Fence} {n : Nat} {c : Code} {Q Q' : Exit → Act → World → Prop} {a : Act} {w : World} (h : LoopIn F n P c Q a w) (hq : ∀ e a w, Q e a w → Q' e a w) : LoopIn F n P c Q' a w :=
 fun b k cs hro hb hr => let ⟨e, a', w', q, x⟩ := h b k cs hro hb hr; ⟨e, a', w', hq _ _ _ q, x⟩
theorem wpIn_of_loopIn {F : Fence} {n : Nat} {c : Code} {Q : Exit → Act → World → Prop} {a : Act} {w : World} (h : LoopIn F n P c Q a w) : (Code.loop c).wpIn F n P Q a w := by
 intro b k cs hro hb hr
 obtain ⟨e, a', w', hq, harr⟩ := h b k cs hro hb hr
 exact ⟨e, a', w', hq, .of_steps (.one (fenced_calm hb hr rfl) stepR_loop) harr⟩
theorem loopIn_step {F : Fence} {n : Nat} {c : Code} {Q : Exit → Act → World → Prop} {a : Act} {w : World} (h : c.wpIn F n P (Exit.then (LoopIn F n P c Q) Q) a w) : LoopIn F n P c Q a w := by
 intro b k cs hro hb hr
 obtain ⟨e, a₁, w₁, hq, harr⟩ := h b (.inLoop c :: k) cs hro hb hr
 cases e with
 | normal =>
  obtain ⟨e₂, a₂, w₂, hq₂, harr₂⟩ := hq b k cs hro hb hr
  exact ⟨e₂, a₂, w₂, hq₂, .of_steps (StepsIn.trans harr (.one (fenced_calm hb hr rfl) stepR_inLoop)) harr₂⟩
 | exit id => exact ⟨_, a₁, w₁, hq, .pass (x := .inLoop c) rfl (fun _ _ => .inl (by simp)) harr⟩
 | goto l => exact ⟨_, a₁, w₁, hq, .pass (x := .inLoop c) rfl (fun _ _ => .inl (by simp)) harr⟩
 | ret => exact ⟨_, a₁, w₁, hq, .pass (x := .inLoop c) rfl (fun _ _ => .inl (by simp)) harr⟩
 | panic ch => exact ⟨_, a₁, w₁, hq, .pass (x := .inLoop c) rfl (fun _ _ => .inl (by simp)) harr⟩
 | outgrown => exact ⟨_, a₁, w₁, hq, .pass (x := .inLoop c) rfl (fun _ _ => .inl (by simp)) harr⟩
def SLoop (P : Program) (r : Option Nat) (c : Code) (s : St) (e : Exit) (s' : St) (m : Nat) : Prop :=
 ∀ (F : Fence) (n : Nat) (σ : Place) (w : World) (a : Act), Free F → InR r σ F → Rel σ s.H w → ActRel σ s a → LoopIn F n P c (SPost σ s w e s' m) a w
theorem SLoop.step {r : Option Nat} {c : Code} {s s₁ s₂ : St} {e : Exit} {m₁ m₂ : Nat} (hx : SCode P r c s .normal s₁ m₁) (hy : SLoop P r c s₁ e s₂ m₂) : SLoop P r c s e s₂ (min m₁ m₂) := by
 intro F n σ w a hF hr hR hA
 refine loopIn_step (wpIn_mono (hx F n σ w a hF hr hR hA) ?_)
 rintro e' a' w' ⟨rfl, σ', h1, h2, h3⟩
 exact loopIn_mono (hy F n σ' w' a' hF (hr.agree (h3.agr hR)) h2 h1) fun _ _ _ hq => SPost.trans h3 hq
theorem SLoop.out {r : Option Nat} {c : Code} {s s₁ : St} {e : Exit} {m₁ : Nat} (hx : SCode P r c s e s₁ m₁) (he : e ≠ .normal) : SLoop P r c s e s₁ m₁ := by
 intro F n σ w a hF hr hR hA
 refine loopIn_step (wpIn_mono (hx F n σ w a hF hr hR hA) ?_)
 rintro e' a' w' ⟨rfl, h⟩
 cases e' with
 | normal => exact absurd rfl he
 | _ => exact ⟨rfl, h⟩
theorem SCode.loop {r : Option Nat} {c : Code} {s s' : St} {e : Exit} {m : Nat} (h : SLoop P r c s e s' m) : SCode P r (.loop c) s e s' m :=
 fun F n σ w a hF hr hR hA => wpIn_of_loopIn (h F n σ w a hF hr hR hA)
/-! ### Operations -/
def SOp (P : Program) (r : Option Nat) (o : Oper) (t : Operand → Option Value) (H : AHeap) (v : Value) (H' : AHeap) (m : Nat) : Prop :=
 ∀ (F : Fence) (n : Nat) (σ : Place) (w : World) (a : Act) (K : Act → World → Prop) (Q : Exit → Act → World → Prop), Free F → InR r σ F → Rel σ H w → Evals σ t a.eval →
  (∀ σ' w', okv σ' v → Rel σ' H' w' → Ext σ H w σ' H' w' m → K (a.put o.dst (ren σ' v)) w') → o.wpIn F n P a w K Q
theorem SOp.weaken {r : Option Nat} {o : Oper} {t : Operand → Option Value} {H H' : AHeap} {v : Value} {m m' : Nat} (h : SOp P r o t H v H' m) (hm : m' ≤ m) : SOp P r o t H v H' m' :=
 fun F n σ w a K Q hF hr hR hE hK => h F n σ w a K Q hF hr hR hE fun σ' w' h1 h2 h3 => hK σ' w' h1 h2 (h3.weaken hm)
theorem SOp.of_runs {r : Option Nat} {o : Oper} {t : Operand → Option Value} {H H' : AHeap} {v : Value} {m : Nat} (hd : ∀ c, o.op ≠ .defer c)
  (h : ∀ (σ : Place) (w : World) (ρ : Operand → Value), Rel σ H w → Evals σ t ρ → Runs P (execOp ρ o) σ H w v H' m) : SOp P r o t H v H' m := by
 intro F n σ w a K Q hF hr hR hE hK
 refine ⟨fun f _ => hF.1 f, ?_⟩
 rw [Oper.semAt_eq _ _ _ hd]
 obtain ⟨σ', w', nx, h1, h2, h3, h4, h5⟩ := h σ w a.eval hR hE
 rw [h1]
 rcases h2 with rfl | ⟨rfl, rfl⟩
 ·exact hK σ' w' h3 h4 h5
 ·have := hK σ' w' h3 h4 h5
  rw [ren_undef] at this
  exact this
/-- What a call calls. -/
def acallee (t : Operand → Option Value) (f : Operand) (args : Array Operand) : Option (Fn × List Value × List Value) :=
 match t f, avals t args.toList with
 | some (.func fn first captured), some vs => some (fn, first.toList ++ vs, captured.toList)
 | _, _ => none
theorem acallee_ok {σ : Place} {t : Operand → Option Value} {ρ : Operand → Value} (hρ : Evals σ t ρ) {f : Operand} {args : Array Operand} {tys : Array TypeId} {fn : Fn} {vs cap : List Value} (h : acallee t f args = some (fn, vs, cap)) (ty : TypeId) :
  resolve ρ { callee := .value f, args, argTypes := tys } ty = pure { target := .fn (σ.fn fn) (cap.map (ren σ)).toArray, args := (vs.map (ren σ)).toArray } ∧
  okfn σ fn ∧ (∀ v ∈ vs, okv σ v) ∧ (∀ v ∈ cap, okv σ v) := by
 unfold acallee at h
 split at h
 ·rename_i fn' first captured as hf has
  simp only [Option.some.injEq,Prod.mk.injEq] at h
  obtain ⟨rfl, rfl, rfl⟩ := h
  obtain ⟨h1, h2⟩ := hρ _ _ hf
  obtain ⟨h3, h4⟩ := avals_ok hρ has
  rw [okv] at h2
  simp only [ren] at h1
  refine ⟨?_, h2.1, fun v hv => ?_, fun v hv => h2.2.2 v (by simpa using hv)⟩
  ·simp only [resolve,h1,Deferred.ofValue]
   congr 2
   ·congr 1
    apply Array.ext'; simp
   ·apply Array.ext'
    simp [← h3]
  ·rcases List.mem_append.1 hv with hv | hv
   ·exact h2.2.1 v (by simpa using hv)
   ·exact h4 v hv
 ·cases h
structure HasCode (P : Program) (f : FuncId) (fn : Func) (c : Code) : Prop where
 get : P.funcs[f]? = some fn
 body : fn.body = some c
 name : (fn.name == "runtime.NumGoroutine") = false
theorem HasCode.enter {f : FuncId} {fn : Func} {c : Code} (h : HasCode P f fn c) (args : Array Value) (w : World) : (callFunc f args).run P w = .ok (.enter f args) w := by
 have hn : ¬ fn.name = "runtime.NumGoroutine" := by simpa using h.name
 simp [callFunc, h.get, h.body, hn]
theorem SOp.call {r : Option Nat} {o : Oper} {t : Operand → Option Value} {H H' : AHeap} {v : Value} {m : Nat} {f : Operand} {args : Array Operand} {tys : Array TypeId} {g : FuncId} {vs cap : List Value} {fn : Func} {c : Code}
  (ho : o.op = .call { callee := .value f, args, argTypes := tys }) (hc : acallee t f args = some (.func g, vs, cap)) (hg : HasCode P g fn c) (h : SCall P g (vs ++ cap) H v H' m) : SOp P r o t H v H' m := by
 intro F n σ w a K Q hF hr hR hE hK
 obtain ⟨h1, _, h3, h4⟩ := acallee_ok hE hc (tys := tys) o.type
 refine ⟨fun f _ => hF.1 f, ?_⟩
 rw [Oper.semAt_eq _ _ _ (by rw [ho]; intro c; simp)]
 have hrun : (execOp a.eval o).run P w = .ok (.enter g ((vs ++ cap).map (ren σ)).toArray) w := by
  simp only [execOp,ho,h1]
  simp only [Sem.run_bind,Sem.run_pure,Result.andThen_ok,Place.fn,invoke]
  rw [hg.enter]
  congr 2
  simp
 rw [hrun]
 refine ⟨hF.depth, (h F (n - 1) σ w hF hR fun x hx => ?_).mono ?_⟩
 ·rcases List.mem_append.1 hx with hx | hx
  ·exact h3 x hx
  ·exact h4 x hx
 ·rintro e w' ⟨σ', rfl, k1, k2, k3⟩
  exact hK σ' w' k1 k2 k3
theorem SOp.yield {r : Option Nat} {o : Oper} {t : Operand → Option Value} {H H' : AHeap} {v : Value} {m : Nat} {f : Operand} {args : Array Operand} {tys : Array TypeId} {l : Nat} {vs cap : List Value}
  (ho : o.op = .call { callee := .value f, args, argTypes := tys }) (hc : acallee t f args = some (.yield l, vs, cap)) (h : SYield P l vs H v H' m) : SOp P r o t H v H' m := by
 intro F n σ w a K Q hF hr hR hE hK
 obtain ⟨h1, h2, h3, h4⟩ := acallee_ok hE hc (tys := tys) o.type
 refine ⟨fun f _ => hF.1 f, ?_⟩
 rw [Oper.semAt_eq _ _ _ (by rw [ho]; intro c; simp)]
 obtain ⟨fn, tmps, assign, body, hy, hround⟩ := h F (n - 1) σ w hF hR h3 h2
 have hrun : (execOp a.eval o).run P w = .ok (.round (σ.blk l) fn tmps assign body) w := by
  simp only [execOp,ho,h1]
  simp only [Sem.run_bind,Sem.run_pure,Result.andThen_ok,Place.fn,invoke]
  exact hy
 rw [hrun]
 refine ⟨hF.depth, hround.mono ?_⟩
 rintro e w' ⟨σ', rfl, k1, k2, k3⟩
 exact hK σ' w' k1 k2 k3
/-! ### Regions in the order of the text -/
def ayielded (ops : Array Oper) (t : List Value) (j : Nat) : Option Bool :=
 match ((ops[j]?).bind (·.dst)).bind (t[·]?) with
 | some (.bool b) => some b
 | _ => none
theorem yielded_eq {σ : Place} {ops : Array Oper} {t : List Value} {j : Nat} : yielded ops (t.map (ren σ)).toArray j = ayielded ops t j := by
 unfold yielded ayielded
 cases hd : (ops[j]?).bind (·.dst) with
 | none => rfl
 | some d =>
  simp only [Option.bind_some,List.getElem?_toArray,List.getElem?_map]
  cases ht : t[d]? with
  | none => rfl
  | some v =>
   simp only [Option.map_some]
   cases v <;> simp [ren]
def awanted (ops : Array Oper) (t : List Value) (o : Oper) : Bool := Region.wanted o (ayielded ops t)
theorem ActRel.wanted {σ : Place} {s : St} {a : Act} (h : ActRel σ s a) (ops : Array Oper) (o : Oper) : Region.wanted o (yielded ops a.tmps) = awanted ops s.t o := by
 unfold awanted
 congr 1
 funext j
 rw [h.tmps, yielded_eq]
def SOps (P : Program) (r : Option Nat) (ops : Array Oper) (l : List Nat) (s s' : St) (m : Nat) : Prop :=
 ∀ (F : Fence) (n : Nat) (σ : Place) (w : World) (a : Act) (Q : Exit → Act → World → Prop), Free F → InR r σ F → Rel σ s.H w → ActRel σ s a →
  (∀ σ' w' a', ActRel σ' s' a' → Rel σ' s'.H w' → Ext σ s.H w σ' s'.H w' m → Q .normal a' w') → wpOpsIn F n P ops Q l a w
theorem SOps.nil {r : Option Nat} {ops : Array Oper} {s : St} : SOps P r ops [] s s s.H.size :=
 fun _ _ σ w a _ _ _ hR hA hK => hK σ w a hA hR (Ext.refl hR)
theorem SOps.op {r : Option Nat} {ops : Array Oper} {i : Nat} {l : List Nat} {s s' : St} {o : Oper} {v : Value} {H₁ : AHeap} {m₁ m₂ : Nat} (ho : ops[i]? = some o) (hw : awanted ops s.t o = true)
  (h : SOp P r o (aval s.t) s.H v H₁ m₁) (k : SOps P r ops l { s with t := tset s.t o.dst v, H := H₁ } s' m₂) : SOps P r ops (i :: l) s s' (min m₁ m₂) := by
 intro F n σ w a Q hF hr hR hA hK
 simp only [wpOpsIn,ho,hA.wanted,hw,if_true]
 refine h F n σ w a _ Q hF hr hR hA.evals ?_
 intro σ' w' h1 h2 h3
 have hag := h3.agr hR
 exact k F n σ' w' _ Q hF (hr.agree hag) h2 ((hA.agree hag H₁).put o.dst h1) fun σ₂ w₂ a₂ k1 k2 k3 => hK σ₂ w₂ a₂ k1 k2 (h3.trans k3)
theorem SOps.skip {r : Option Nat} {ops : Array Oper} {i : Nat} {l : List Nat} {s s' : St} {o : Oper} {m₂ : Nat} (ho : ops[i]? = some o) (hw : awanted ops s.t o = false)
  (k : SOps P r ops l { s with t := tset s.t o.dst undef } s' m₂) : SOps P r ops (i :: l) s s' m₂ := by
 intro F n σ w a Q hF hr hR hA hK
 simp only [wpOpsIn,ho,hA.wanted,hw,Bool.false_eq_true,if_false]
 refine ⟨fun f _ => hF.1 f, ?_⟩
 have := hA.put o.dst (okv_undef σ)
 rw [ren_undef] at this
 exact k F n σ w _ Q hF hr hR this hK
theorem SCode.region {r : Option Nat} {id : Nat} {ops : Array Oper} {s s' : St} {m : Nat} (h : SOps P r ops (List.range ops.size) s s' m) : SCode P r (.region id ops false) s .normal s' m :=
 fun F n σ w a hF hr hR hA => wpIn_region (h F n σ w a _ hF hr hR hA fun σ' _ _ h1 h2 h3 => ⟨rfl, σ', h1, h2, h3⟩)
end Go.Am
/- Whole calls, rounds of a loop over a function, and the loop itself. -/
namespace Go.Am
variable {T : Tab} {P : Program}
/-! ### Results -/
def aresultList (T : Tab) (t : List Value) (H : AHeap) : List ResultVar → Option (List Value)
 | [] => some []
 | .tmp i :: rs => match aresultList T t H rs with
  | some vs => some (t.getD i undef :: vs)
  | none => none
 | .cell a ty :: rs => match t.getD a undef, aresultList T t H rs with
  | .pointer (some ad), some vs => match aRead T H ty ad with
   | some v => some (v :: vs)
   | none => none
  | _, _ => none
def aresults (T : Tab) (fn : Func) (t : List Value) (H : AHeap) : Option Value :=
 match aresultList T t H fn.results.toList with
 | some [v] => some v
 | some vs => some (.tuple vs.toArray)
 | none => none
theorem tmp_eval {σ : Place} {t : List Value} (i : Nat) : (t.map (ren σ)).toArray.getD i undef = ren σ (t.getD i undef) := by
 by_cases hi : i < t.length
 ·simp [Array.getD, List.getD, hi]
 ·simp [Array.getD, List.getD, hi, ren_undef]
theorem aresultList_ok (hT : T.Fits P) {σ : Place} {t : List Value} {H : AHeap} {w : World} (r : Rel σ H w) (ht : ∀ v ∈ t, okv σ v) (A : Array Value) (hA : ∀ i, A.getD i undef = ren σ (t.getD i undef)) : ∀ (rs : List ResultVar) (vs : List Value), aresultList T t H rs = some vs →
  (rs.mapM (fun
   | .tmp i => pure (A.getD i undef)
   | .cell a ty => do loadVar ty (← asAddr (A.getD a undef))) : Sem (List Value)).run P w = .ok (vs.map (ren σ)) w ∧ ∀ v ∈ vs, okv σ v
 | [], vs, h => by simp only [aresultList,Option.some.injEq] at h; subst h; simp
 | .tmp i :: rs, vs, h => by
  simp only [aresultList] at h
  split at h
  ·rename_i vs' hvs
   cases h
   obtain ⟨h1, h2⟩ := aresultList_ok hT r ht A hA rs vs' hvs
   refine ⟨?_, fun v hv => ?_⟩
   ·rw [List.mapM_cons]
    simp only [Sem.run_bind,Sem.run_pure,Result.andThen_ok,h1,List.map_cons]
    rw [hA]
   ·rcases List.mem_cons.1 hv with rfl | hv
    ·by_cases hi : i < t.length
     ·have : t.getD i undef = t[i] := by simp [List.getD, hi]
      rw [this]; exact ht _ (List.getElem_mem hi)
     ·have : t.getD i undef = undef := by simp [List.getD, List.getElem?_eq_none (Nat.le_of_not_lt hi)]
      rw [this]; exact okv_undef σ
    ·exact h2 v hv
  ·cases h
 | .cell a ty :: rs, vs, h => by
  simp only [aresultList] at h
  split at h
  ·rename_i ad vs' had hvs
   split at h
   ·rename_i v hv
    cases h
    obtain ⟨h1, h2⟩ := aresultList_ok hT r ht A hA rs vs' hvs
    have hok : okv σ (.pointer (some ad)) := by
     by_cases hi : a < t.length
     ·have e : t.getD a undef = t[a] := by simp [List.getD, hi]
      rw [← had, e]; exact ht _ (List.getElem_mem hi)
     ·have e : t.getD a undef = undef := by simp [List.getD, List.getElem?_eq_none (Nat.le_of_not_lt hi)]
      rw [e] at had; cases had
    rw [okv] at hok
    obtain ⟨h3, h4⟩ := aRead_ok (P := P) hT r hok hv
    refine ⟨?_, fun u hu => ?_⟩
    ·rw [List.mapM_cons]
     have e : asAddr (A.getD a undef) = pure (σ.addr ad) := by rw [hA, had]; simp [ren, asAddr]
     simp only [Sem.run_bind,e,Sem.run_pure,Result.andThen_ok,h3,h1,List.map_cons]
    ·rcases List.mem_cons.1 hu with rfl | hu
     ·exact h4
     ·exact h2 u hu
   ·cases h
  ·cases h
theorem aresults_ok (hT : T.Fits P) {σ : Place} {t : List Value} {H : AHeap} {w : World} (r : Rel σ H w) (ht : ∀ v ∈ t, okv σ v) {fn : Func} {v : Value} (h : aresults T fn t H = some v) :
  (results fn (t.map (ren σ)).toArray).run P w = .ok (ren σ v) w ∧ okv σ v := by
 unfold aresults at h
 split at h
 ·rename_i u hl
  cases h
  obtain ⟨h1, h2⟩ := aresultList_ok (P := P) hT r ht (t.map (ren σ)).toArray (fun i => tmp_eval i) _ _ hl
  refine ⟨?_, h2 v (by simp)⟩
  unfold results
  rw [Array.mapM_eq_mapM_toList]
  simp only [Sem.run_bind,Sem.run_map]
  refine Eq.trans (congrArg (fun (r : Result (List Value)) => (r.andThen fun a w' => Result.ok a.toArray w').andThen fun a w' => Sem.run P (pure (if h : a.size = 1 then a[0] else Value.tuple a)) w') h1) ?_
  simp
 ·rename_i vs hne hl
  cases h
  obtain ⟨h1, h2⟩ := aresultList_ok (P := P) hT r ht (t.map (ren σ)).toArray (fun i => tmp_eval i) _ _ hl
  refine ⟨?_, by rw [okv]; exact fun v hv => h2 v (by simpa using hv)⟩
  unfold results
  rw [Array.mapM_eq_mapM_toList]
  simp only [Sem.run_bind,Sem.run_map]
  refine Eq.trans (congrArg (fun (r : Result (List Value)) => (r.andThen fun a w' => Result.ok a.toArray w').andThen fun a w' => Sem.run P (pure (if h : a.size = 1 then a[0] else Value.tuple a)) w') h1) ?_
  have hlen : vs.length ≠ 1 := by
   intro e
   match vs, e with
   | [x], _ => exact hne x rfl
  simp [hlen, ren]
 ·cases h
/-! ### The end of a call -/
def atake : List Nat → AHeap → Option AHeap
 | [], H => some H
 | k :: ks, H => match H.get k with
  | .defer => atake ks (H.put k .dead)
  | _ => none
theorem putObj_size (w : World) (r : Nat) (o : Obj) : (w.putObj r o).heap.size = w.heap.size := World.putObj_size
theorem Rel.put {σ : Place} {H : AHeap} {w : World} {k b s m : Nat} (h : Rel σ H w) (hk : σ.at_ k = some (b, s)) (hal : (H.get k).al = some []) (o : Obj) (blk : ABlk)
  (hb : Holds σ (w.putObj b o) (σ.room k) b s blk) (hm : m ≤ k) : Rel σ (H.put k blk) (w.putObj b o) ∧ Ext σ H w σ (H.put k blk) (w.putObj b o) m := by
 have h1 := h.update hk hal (putObj_size w b o) (fun j hj => World.putObj_heap_other hj) blk hb
 have h2 := Ext.update (m := m) (al := []) h hk (putObj_size w b o) (fun j hj => World.putObj_heap_other hj) rfl rfl rfl blk hm (fun j hj => by simp at hj)
 exact ⟨h1, h2⟩
theorem leaves_ok (hT : T.Fits P) {F : Fence} {n : Nat} {fn : Func} {t : List Value} {σ : Place} {v : Value} {R : Ending → World → Prop} : ∀ (ds : List Nat) (H H' : AHeap) (w : World) (m : Nat), Rel σ H w →
  (∀ v ∈ t, okv σ v) → (∀ k ∈ ds, (σ.at_ k).isSome = true) → atake ds H = some H' → aresults T fn t H' = some v → m ≤ H.size → (∀ k ∈ ds, m ≤ k) →
  (∀ w', Rel σ H' w' → Ext σ H w σ H' w' m → R (.returned (ren σ v)) w') →
  LeavesInM F n P fn (t.map (ren σ)).toArray R (ds.map (mark σ)) .returning w
 | [], H, H', w, m, r, ht, _, hk, hres, hm, _, hK => by
  simp only [atake,Option.some.injEq] at hk
  subst hk
  obtain ⟨h1, h2⟩ := aresults_ok (P := P) hT r ht hres
  exact ⟨_, h1, hK w r ((Ext.refl r).weaken hm)⟩
 | k :: ks, H, H', w, m, r, ht, hpl, hk, hres, hm, hmk, hK => by
  simp only [atake] at hk
  split at hk
  ·rename_i hg
   have hp := hpl k (by simp)
   obtain ⟨p, hp⟩ := Option.isSome_iff_exists.1 hp
   obtain ⟨b, s⟩ := p
   have hh := r.holds k b s hp
   rw [hg] at hh
   have hrun := run_takeDeferred (P := P) hh.2
   obtain ⟨r', x'⟩ := r.put hp (by rw [hg]; rfl) (.deferred none) .dead trivial (hmk k (by simp))
   refine ⟨by simp, .inl ⟨b, _, ?_, hrun, ?_⟩⟩
   ·simp [mark, Place.blk, hp]
   ·refine leaves_ok hT ks (H.put k .dead) H' _ m r' ht (fun j hj => hpl j (by simp [hj])) hk hres (by simpa using hm) (fun j hj => hmk j (by simp [hj])) ?_
    intro w' h1 h2
    have := x'.trans h2
    rw [Nat.min_self] at this
    exact hK w' h1 this
  ·cases hk
def startT (fn : Func) (args : List Value) : List Value := args ++ List.replicate (fn.ntmps - args.length) undef
theorem SCall.of_code (hT : T.Fits P) {f : FuncId} {fn : Func} {c : Code} {args : List Value} {H : AHeap} {e : Exit} {s' : St} {m m' : Nat} {H' : AHeap} {v : Value} (hf : HasCode P f fn c)
  (h : SCode P none c ⟨startT fn args, H, []⟩ e s' m) (he : e = .normal ∨ e = .ret) (hk : atake s'.ds s'.H = some H') (hres : aresults T fn s'.t H' = some v) (hm : m' ≤ m) (hms : m' ≤ s'.H.size) (hmk : ∀ k ∈ s'.ds, m' ≤ k) :
  SCall P f args H v H' m' := by
 intro F n σ w hF hR hargs
 have hF0 : Free F.plain := ⟨hF.1, hF.2⟩
 refine (show CallsIn F.plain n P f _ w _ from ?_)
 refine callsIn_of_wp_marks hf.get hf.body (hF.1 f) (wpIn_mono (h F.plain n σ w _ hF0 ⟨rfl, fun l hl => by cases hl⟩ hR ?_) ?_) rfl
 ·refine ⟨?_, fun v hv => ?_, rfl, fun k hk => by simp at hk⟩
  ·simp only [startT,List.map_append,List.map_replicate,ren_undef]
   apply Array.ext'; simp
  ·simp only [startT] at hv
   rcases List.mem_append.1 hv with hv | hv
   ·exact hargs v hv
   ·rw [List.eq_of_mem_replicate hv]; exact okv_undef σ
 ·rintro e' a' w' ⟨rfl, σ', h1, h2, h3⟩
  have key : LeavesInM F.plain n P fn a'.tmps (fun e w' => ∃ σ', e = .returned (ren σ' v) ∧ okv σ' v ∧ Rel σ' H' w' ∧ Ext σ H w σ' H' w' m') a'.defers .returning w' := by
   rw [h1.tmps, h1.ds]
   refine leaves_ok hT s'.ds s'.H H' w' m' h2 h1.ok h1.dok hk hres hms hmk ?_
   intro w'' k1 k2
   refine ⟨σ', rfl, (aresults_ok (P := P) hT k1 h1.ok hres).2, k1, ?_⟩
   have := (h3.weaken hm).trans k2
   rwa [Nat.min_self] at this
  rcases he with rfl | rfl
  ·exact key
  ·exact key
/-! ### What is quiet leaves the old heap as it was -/
theorem Rel.quiet {σ σ' : Place} {H H' : AHeap} {w w' : World} {m : Nat} (r : Rel σ H w) (x : Ext σ H w σ' H' w' m) (hm : H.size ≤ m) :
  Rel σ H w' ∧ Ext σ H w σ H w' H.size ∧ ∀ b, b < w.heap.size → w'.heap[b]? = w.heap[b]? := by
 have hf : ∀ b, b < w.heap.size → w'.heap[b]? = w.heap[b]? := fun b hb => x.frame b hb fun k s hk hp => by
  have := (r.lt k b s hp).1; omega
 refine ⟨⟨fun k b s hp => ?_, fun k b s hp => ?_, r.excl⟩, ⟨fun _ _ => ⟨rfl, rfl⟩, Nat.le_refl _, x.wsize, x.os, x.tape, x.output, fun _ _ _ => rfl, fun b hb _ => hf b hb, fun k b s hk hp => ?_⟩, hf⟩
 ·have := r.lt k b s hp; have := x.wsize; omega
 ·exact (r.holds k b s hp).agree (Agree.refl σ) (hf b (r.lt k b s hp).2)
 ·have := (r.lt k b s hp).1; omega
theorem SCall.gc {f : FuncId} {args : List Value} {H H' : AHeap} {v : Value} {m : Nat} (h : SCall P f args H v H' m) (hm : H.size ≤ m) (hv : gr v = true) : SCall P f args H v H H.size := by
 intro F n σ w hF hR hargs
 refine (h F n σ w hF hR hargs).mono ?_
 rintro e w' ⟨σ', rfl, h1, h2, h3⟩
 obtain ⟨k1, k2, _⟩ := hR.quiet h3 hm
 obtain ⟨g1, g2⟩ := gr_ok σ hv
 exact ⟨σ, by rw [(gr_ok σ' hv).2, g2], g1, k1, k2⟩
theorem SCall.weaken {f : FuncId} {args : List Value} {H H' : AHeap} {v : Value} {m m' : Nat} (h : SCall P f args H v H' m) (hm : m' ≤ m) : SCall P f args H v H' m' :=
 fun F n σ w hF hR hargs => (h F n σ w hF hR hargs).mono fun _ _ ⟨σ', h1, h2, h3, h4⟩ => ⟨σ', h1, h2, h3, h4.weaken hm⟩
/-! ### Rounds -/
def zipSet : List Value → List (Tmp × Value) → List Value
 | t, [] => t
 | t, (p, a) :: r => zipSet (t.set p a) r
theorem zipSet_ok {σ : Place} : ∀ (l : List (Tmp × Value)) (t : List Value), (∀ v ∈ t, okv σ v) → (∀ p ∈ l, okv σ p.2) →
  (∀ v ∈ zipSet t l, okv σ v) ∧ (l.map fun p => (p.1, ren σ p.2)).foldl (fun tmps (t, a) => tmps.setIfInBounds t a) (t.map (ren σ)).toArray = ((zipSet t l).map (ren σ)).toArray
 | [], t, ht, _ => ⟨ht, rfl⟩
 | (p, a) :: r, t, ht, hl => by
  have := zipSet_ok r (t.set p a) (fun v hv => by
   rcases List.mem_or_eq_of_mem_set hv with hv | rfl
   ·exact ht v hv
   ·exact hl (p, v) (by simp)) (fun q hq => hl q (by simp [hq]))
  refine ⟨this.1, ?_⟩
  simp only [zipSet,List.map_cons,List.foldl_cons]
  rw [← this.2]
  congr 1
  simp [List.map_set]
def jumpOf : Exit → Option (Option Code)
 | .normal => some none
 | .ret => some (some .ret)
 | .exit id => some (some (.exit id))
 | _ => none
theorem Rel.loopAt {σ : Place} {H : AHeap} {w : World} (r : Rel σ H w) {l : Nat} {st : LoopState} {pend : Option Code} {t : List Value} {ps : Array Tmp} {assign body : Code} {d : Nat} (hl : (σ.at_ l).isSome = true)
  (hg : H.get l = .loop st pend t ps assign body d) : σ.at_ l = some (σ.blk l, 0) ∧ (∀ v ∈ t, okv σ v) ∧ (σ.at_ d).isSome = true ∧ ∃ fn,
   w.heap[σ.blk l]? = some (.loop { state := st, pending := pend, fn, tmps := (t.map (ren σ)).toArray, params := ps, assign, body, defers := σ.blk d }) := by
 obtain ⟨p, hp⟩ := Option.isSome_iff_exists.1 hl
 obtain ⟨b, s⟩ := p
 have hh := r.holds l b s hp
 rw [hg] at hh
 obtain ⟨h0, h1, h2, fn, h3⟩ := hh
 subst h0
 have hb : σ.blk l = b := by simp [Place.blk, hp]
 rw [hb]
 exact ⟨hp, h1, h2, fn, h3⟩
theorem Rel.setLoop {σ : Place} {H : AHeap} {w : World} (r : Rel σ H w) {l : Nat} {st st' : LoopState} {pend pend' : Option Code} {t : List Value} {ps : Array Tmp} {assign body : Code} {d m : Nat} (hl : (σ.at_ l).isSome = true)
  (hg : H.get l = .loop st pend t ps assign body d) (hm : m ≤ l) {fn : FuncId} {rec : Loop}
  (hrec : rec = { state := st', pending := pend', fn, tmps := (t.map (ren σ)).toArray, params := ps, assign, body, defers := σ.blk d }) :
  Rel σ (H.put l (.loop st' pend' t ps assign body d)) (w.putObj (σ.blk l) (.loop rec)) ∧ Ext σ H w σ (H.put l (.loop st' pend' t ps assign body d)) (w.putObj (σ.blk l) (.loop rec)) m := by
 obtain ⟨h1, h2, h3, _, _⟩ := r.loopAt hl hg
 subst hrec
 refine r.put h1 (by rw [hg]; rfl) _ _ ⟨rfl, h2, h3, fn, World.putObj_heap_same (r.lt _ _ _ h1).2⟩ hm
theorem SYield.of_code {l : Nat} {args : List Value} {H : AHeap} {pend : Option Code} {t : List Value} {ps : Array Tmp} {assign body : Code} {d : Nat} {s₁ s₂ : St} {m₁ m₂ : Nat} {e : Exit} {jump : Option Code}
  {pend₁ : Option Code} {t₁ : List Value} {ps₁ : Array Tmp} {as₁ bd₁ : Code} {d₁ : Nat} {st₂ : LoopState} {pend₂ : Option Code} {t₂ : List Value} {ps₂ : Array Tmp} {as₂ bd₂ : Code} {d₂ : Nat}
  (hg : H.get l = .loop .ready pend t ps assign body d) (hlen : args.length = ps.size)
  (hA : SCode P (some l) assign ⟨zipSet t (ps.toList.zip args), H, []⟩ .normal s₁ m₁)
  (hg₁ : s₁.H.get l = .loop .ready pend₁ t₁ ps₁ as₁ bd₁ d₁)
  (hB : SCode P (some l) body ⟨s₁.t, s₁.H.put l (.loop .busy pend₁ t₁ ps₁ as₁ bd₁ d₁), s₁.ds⟩ e s₂ m₂)
  (hg₂ : s₂.H.get l = .loop st₂ pend₂ t₂ ps₂ as₂ bd₂ d₂) (hj : jumpOf e = some jump) :
  SYield P l args H (.bool jump.isNone) (s₂.H.put l (.loop (if jump.isNone then .ready else .done) jump t₂ ps₂ as₂ bd₂ d₂)) (min (min m₁ l) (min m₂ l)) := by
 intro F n σ w hF hR hargs hl
 obtain ⟨h1, h2, h3, fn, h4⟩ := hR.loopAt hl hg
 refine ⟨fn, _, assign, body, run_yield h4 (by simpa using hlen), ?_⟩
 refine roundIn_of_wpIn (hF.1 fn) ?_
 have hFr : Free (F.inRound (σ.blk l)) := hF.inRound _
 have hzip : (ps.zip (args.map (ren σ)).toArray).foldl (fun tmps (t, a) => tmps.setIfInBounds t a) (t.map (ren σ)).toArray = ((zipSet t (ps.toList.zip args)).map (ren σ)).toArray := by
  rw [← (zipSet_ok (ps.toList.zip args) t h2 (fun p hp => hargs p.2 (List.of_mem_zip hp).2)).2]
  rw [← Array.foldl_toList]
  congr 1
  rw [Array.toList_zip]
  simp [List.zip_map_right, Prod.map]
 have hA0 : ActRel σ ⟨zipSet t (ps.toList.zip args), H, []⟩ { tmps := (ps.zip (args.map (ren σ)).toArray).foldl (fun tmps (t, a) => tmps.setIfInBounds t a) (t.map (ren σ)).toArray, defers := [] } :=
  ⟨hzip, (zipSet_ok (ps.toList.zip args) t h2 (fun p hp => hargs p.2 (List.of_mem_zip hp).2)).1, rfl, fun k hk => by simp at hk⟩
 refine wpIn_mono (hA (F.inRound (σ.blk l)) n σ w _ hFr ⟨rfl, fun l' hl' => by cases hl'; exact hl⟩ hR hA0) ?_
 rintro e' a' w' ⟨rfl, σ₁, k1, k2, k3⟩
 have ag := k3.agr hR
 have hl₁ := ag.placed hl
 have hbl : σ₁.blk l = σ.blk l := ag.blk hl
 obtain ⟨_, j2, j3, fn₁, j4⟩ := k2.loopAt hl₁ hg₁
 rw [hbl] at j4
 obtain ⟨r₂, x₂⟩ := k2.setLoop (st' := .busy) (pend' := pend₁) hl₁ hg₁ (Nat.le_refl l) (fn := fn₁) rfl
 rw [hbl] at r₂ x₂
 refine ⟨_, run_beginRound j4 rfl, ?_⟩
 have hA1 : ActRel σ₁ ⟨s₁.t, s₁.H.put l (.loop .busy pend₁ t₁ ps₁ as₁ bd₁ d₁), s₁.ds⟩ a' := ⟨k1.tmps, k1.ok, k1.ds, k1.dok⟩
 have hin : InR (some l) σ₁ (F.inRound (σ.blk l)) := ⟨by simp [Fence.inRound, hbl], fun l' hl' => by cases hl'; exact hl₁⟩
 refine wpIn_mono (hB (F.inRound (σ.blk l)) n σ₁ _ a' hFr hin r₂ hA1) ?_
 rintro e₂ a₂ w₂ ⟨rfl, σ₂, q1, q2, q3⟩
 have ag₂ := q3.agr r₂
 have hl₂ := ag₂.placed hl₁
 have hbl₂ : σ₂.blk l = σ.blk l := (ag₂.blk hl₁).trans hbl
 obtain ⟨_, _, _, fn₂, u4⟩ := q2.loopAt hl₂ hg₂
 rw [hbl₂] at u4
 have hend := run_endRound (P := P) jump u4
 obtain ⟨r₃, x₃⟩ := q2.setLoop (st' := if jump.isNone then .ready else .done) (pend' := jump) hl₂ hg₂ (Nat.le_refl l) (fn := fn₂) rfl
 rw [hbl₂] at r₃ x₃
 have fin : ∃ σ', Ending.returned (.bool jump.isNone) = .returned (ren σ' (.bool jump.isNone)) ∧ okv σ' (.bool jump.isNone) ∧ Rel σ' (s₂.H.put l (.loop (if jump.isNone then .ready else .done) jump t₂ ps₂ as₂ bd₂ d₂)) (w₂.putObj (σ.blk l) (.loop { state := if jump.isNone then .ready else .done, pending := jump, fn := fn₂, tmps := (t₂.map (ren σ₂)).toArray, params := ps₂, assign := as₂, body := bd₂, defers := σ₂.blk d₂ })) ∧
   Ext σ H w σ' (s₂.H.put l (.loop (if jump.isNone then .ready else .done) jump t₂ ps₂ as₂ bd₂ d₂)) (w₂.putObj (σ.blk l) (.loop { state := if jump.isNone then .ready else .done, pending := jump, fn := fn₂, tmps := (t₂.map (ren σ₂)).toArray, params := ps₂, assign := as₂, body := bd₂, defers := σ₂.blk d₂ })) (min (min m₁ l) (min m₂ l)) :=
  ⟨σ₂, by simp [ren], by simp [okv], r₃, (k3.trans x₂).trans (q3.trans x₃)⟩
 cases e₂ with
 | normal => simp only [jumpOf,Option.some.injEq] at hj; subst hj; exact ⟨_, _, hend, fin⟩
 | ret => simp only [jumpOf,Option.some.injEq] at hj; subst hj; exact ⟨_, _, hend, fin⟩
 | exit id => simp only [jumpOf,Option.some.injEq] at hj; subst hj; exact ⟨_, _, hend, fin⟩
 | goto t => cases hj
 | panic c => cases hj
 | outgrown => cases hj
end Go.Am
/- A loop over a function. -/
namespace Go.Am
variable {T : Tab} {P : Program}
theorem run_enterLoop_inner (fn : FuncId) (tmps : Array Value) (ps : Array Tmp) (assign body : Code) {w : World} {l : Nat} {r : Loop} (h : w.heap[l]? = some (.loop r)) :
  (Instr.enterLoop fn tmps ps assign body (some l)).run P w =
   .ok (w.heap.size, []) (w.alloc (.loop { state := .ready, pending := none, fn, tmps, params := ps, assign, body, defers := r.defers })) := by
 unfold Instr.enterLoop
 simp only [Sem.run_bind,run_getLoop h,run_newObj_alloc,Result.andThen,Sem.run_pure]
theorem blk_add_same (σ : Place) (k b r : Nat) : (σ.add k b r).blk k = b := by simp [Place.blk, Place.add]
def yieldV (l : Nat) : Value := .func (.yield l) #[] #[]
theorem ren_yieldV (σ : Place) (l : Nat) : ren σ (yieldV l) = .func (.yield (σ.blk l)) #[] #[] := by simp [yieldV, ren, Place.fn]
theorem okv_yieldV {σ : Place} {l : Nat} (h : (σ.at_ l).isSome = true) : okv σ (yieldV l) := by
 rw [yieldV, okv]
 exact ⟨h, fun v hv => by simp at hv, fun v hv => by simp at hv⟩
/-- What follows on the loop: nothing, or the jump that a round has left. -/
def SPend (P : Program) (r : Option Nat) (pend : Option Code) (s : St) (e : Exit) (s' : St) (m : Nat) : Prop :=
 match pend with
 | none => e = .normal ∧ s' = s ∧ m = s.H.size
 | some c => SCode P r c s e s' m
/-- What is the same in a frame of its own and in a round: the call, and what follows on it. -/
theorem range_core {F : Fence} {n : Nat} {r : Option Nat} {g : Operand} {f : FuncId} {fn : Func} {c : Code} {first captured : Array Value} {s : St} {σ σ₁ : Place} {w w₁ : World} {a : Act} {H₁ H₂ : AHeap} {L : Nat} {v : Value} {m₀ m₁ m₂ : Nat}
  {st : LoopState} {pend : Option Code} {t' : List Value} {ps' : Array Tmp} {as' bd' : Code} {d' : Nat} {e : Exit} {s' : St} {ds₁ : List Nat} {mk : List Deferred}
  (hF : Free F) (hr : InR r σ F) (hR : Rel σ s.H w) (hA : ActRel σ s a)
  (hg : aval s.t g = some (.func (.func f) first captured)) (hf : HasCode P f fn c)
  (r₁ : Rel σ₁ H₁ w₁) (x₁ : Ext σ s.H w σ₁ H₁ w₁ m₀) (hL : (σ₁.at_ L).isSome = true)
  (hmk : mk ++ a.defers = ds₁.map (mark σ₁)) (hds : ∀ k ∈ ds₁, (σ₁.at_ k).isSome = true)
  (hcall : SCall P f (first.toList ++ [yieldV L] ++ captured.toList) H₁ v H₂ m₁)
  (hg₂ : H₂.get L = .loop st pend t' ps' as' bd' d') (hst : st ≠ .busy)
  (hp : SPend P r pend ⟨s.t, H₂.put L (.loop .exhausted pend t' ps' as' bd' d'), ds₁⟩ e s' m₂) :
  ∃ (d : Deferred) (w₁' : World) (f' : FuncId) (args : Array Value) (w₂ : World),
   (resolve a.eval (rangeCall g (σ₁.blk L)) 0).run P w₁ = .ok d w₁' ∧
   (∀ f', Target.leads P w₁' d.target d.args = some f' → F.fn f') ∧
   (invoke d.target d.args).run P w₁' = .ok (.enter f' args) w₂ ∧
   (F.depth.isSome = true → 1 ≤ n) ∧
   CallsIn F (n - 1) P f' args w₂ (rangePost F n P (σ₁.blk L) (SPost σ s w e s' (min (min m₀ m₁) (min L m₂))) { a with defers := mk ++ a.defers }) := by
 obtain ⟨h1, h2⟩ := hA.evals g _ hg
 rw [okv] at h2
 simp only [ren,Place.fn] at h1
 have ag := x₁.agr hR
 have hargs : ∀ x ∈ first.toList ++ [yieldV L] ++ captured.toList, okv σ₁ x := by
  intro x hx
  rcases List.mem_append.1 hx with hx | hx
  ·rcases List.mem_append.1 hx with hx | hx
   ·exact ag.okv (h2.2.1 x (by simpa using hx))
   ·rw [List.mem_singleton.1 hx]; exact okv_yieldV hL
  ·exact ag.okv (h2.2.2 x (by simpa using hx))
 have e1 : first.map (ren σ₁) = first.map (ren σ) := Array.map_congr_left fun v hv => ag.ren (h2.2.1 v hv)
 have e2 : captured.map (ren σ₁) = captured.map (ren σ) := Array.map_congr_left fun v hv => ag.ren (h2.2.2 v hv)
 refine ⟨{ target := .fn (.func f) (captured.map (ren σ)), args := first.map (ren σ) ++ #[.func (.yield (σ₁.blk L)) #[] #[]] }, w₁, f, ((first.toList ++ [yieldV L] ++ captured.toList).map (ren σ₁)).toArray, w₁, ?_, fun f' _ => hF.1 f', ?_, hF.depth, ?_⟩
 ·have hcst : a.eval (.const (.func (.yield (σ₁.blk L)) #[] #[])) = .func (.yield (σ₁.blk L)) #[] #[] := rfl
  simp [resolve, h1, Deferred.ofValue, hcst]
 ·simp only [invoke]
  rw [hf.enter]
  congr 2
  apply Array.ext'
  simp only [List.map_append,List.map_cons,List.map_nil,ren_yieldV,Array.toList_append,← e1,← e2]
  simp
 ·refine (hcall F (n - 1) σ₁ w₁ hF r₁ hargs).mono ?_
  rintro e' w₃ ⟨σ₂, rfl, k1, k2, k3⟩
  have ag₂ := k3.agr r₁
  have hL₂ := ag₂.placed hL
  have hbl : σ₂.blk L = σ₁.blk L := ag₂.blk hL
  obtain ⟨_, _, _, fn₂, u4⟩ := k2.loopAt hL₂ hg₂
  rw [hbl] at u4
  have hend := run_endLoop (P := P) u4 hst
  obtain ⟨r₃, x₃⟩ := k2.setLoop (st' := .exhausted) (pend' := pend) hL₂ hg₂ (Nat.le_refl L) (fn := fn₂) rfl
  rw [hbl] at r₃ x₃
  refine ⟨pend, _, hend, ?_⟩
  have agA : Agree σ σ₂ := ag.trans ag₂
  have hact : ActRel σ₂ ⟨s.t, H₂.put L (.loop .exhausted pend t' ps' as' bd' d'), ds₁⟩ { a with defers := mk ++ a.defers } := by
   refine ⟨?_, fun v hv => agA.okv (hA.ok v hv), ?_, fun k hk => ag₂.placed (hds k hk)⟩
   ·show a.tmps = _
    rw [hA.tmps, agA.map hA.ok]
   ·show mk ++ a.defers = _
    rw [hmk]
    exact List.map_congr_left fun k hk => by simp [mark, ag₂.blk (hds k hk)]
  have hx : Ext σ s.H w σ₂ (H₂.put L (.loop .exhausted pend t' ps' as' bd' d')) _ (min (min m₀ m₁) L) := (x₁.trans k3).trans x₃
  cases pend with
  | none =>
   obtain ⟨rfl, rfl, rfl⟩ := hp
   refine ⟨rfl, σ₂, hact, r₃, hx.weaken ?_⟩
   omega
  | some cj =>
   refine wpIn_mono (hp F n σ₂ _ _ hF (hr.agree agA) r₃ hact) ?_
   intro e' a' w' hq
   have := SPost.trans (s := s) (s₁ := ⟨s.t, H₂.put L (.loop .exhausted (some cj) t' ps' as' bd' d'), ds₁⟩) hx hq
   exact this.weaken (by omega)
theorem SCode.rangeFunc_outer {g : Operand} {ps : Array Tmp} {assign body : Code} {f : FuncId} {fn : Func} {c : Code} {first captured : Array Value} {s : St} {H₂ : AHeap} {v : Value} {m₁ m₂ : Nat}
  {st : LoopState} {pend : Option Code} {t' : List Value} {ps' : Array Tmp} {as' bd' : Code} {d' : Nat} {e : Exit} {s' : St}
  (hg : aval s.t g = some (.func (.func f) first captured)) (hf : HasCode P f fn c)
  (hcall : SCall P f (first.toList ++ [yieldV (s.H.size + 1)] ++ captured.toList) ((s.H.alloc .defer).alloc (.loop .ready none s.t ps assign body s.H.size)) v H₂ m₁)
  (hg₂ : H₂.get (s.H.size + 1) = .loop st pend t' ps' as' bd' d') (hst : st ≠ .busy)
  (hp : SPend P none pend ⟨s.t, H₂.put (s.H.size + 1) (.loop .exhausted pend t' ps' as' bd' d'), s.H.size :: s.ds⟩ e s' m₂) :
  SCode P none (.rangeFunc g ps assign body) s e s' (min (min s.H.size m₁) (min (s.H.size + 1) m₂)) := by
 intro F n σ w a hF hr hR hA
 refine wpIn_rangeFunc fun fn' _ => ?_
 have hro : F.round = none := hr.1
 rw [hro]
 have ra := hR.alloc (.deferred (some [])) .defer 0 ⟨rfl, World.alloc_heap_new w _⟩ (.inr ⟨[], rfl⟩)
 have xa := Ext.alloc hR (.deferred (some [])) .defer 0
 have aga := hR.agree_add w.heap.size 0
 have hsz : (s.H.alloc .defer).size = s.H.size + 1 := AHeap.size_alloc _ _
 have hwz : (w.alloc (.deferred (some []))).heap.size = w.heap.size + 1 := by simp
 have hpl : ((σ.add s.H.size w.heap.size 0).at_ s.H.size).isSome = true := by rw [Place.add_same]; rfl
 have agb := ra.agree_add (w.heap.size + 1) 0
 rw [hsz] at agb
 have rb := ra.alloc (.loop { state := .ready, pending := none, fn := fn', tmps := a.tmps, params := ps, assign, body, defers := w.heap.size }) (.loop .ready none s.t ps assign body s.H.size) 0 (by
  rw [hwz, hsz]
  refine ⟨rfl, fun v hv => agb.okv (aga.okv (hA.ok v hv)), agb.placed hpl, fn', ?_⟩
  have e0 := World.alloc_heap_new (w.alloc (.deferred (some []))) (.loop { state := .ready, pending := none, fn := fn', tmps := a.tmps, params := ps, assign, body, defers := w.heap.size })
  rw [hwz] at e0
  rw [e0, hA.tmps, agb.map (fun v hv => aga.okv (hA.ok v hv)), aga.map hA.ok, agb.blk hpl, blk_add_same]) (.inr ⟨[], rfl⟩)
 have xb := Ext.alloc ra (.loop { state := .ready, pending := none, fn := fn', tmps := a.tmps, params := ps, assign, body, defers := w.heap.size }) (.loop .ready none s.t ps assign body s.H.size) 0
 rw [hwz, hsz] at rb xb
 have xx := (xa.trans xb).weaken (m' := s.H.size) (by omega)
 have hL : (((σ.add s.H.size w.heap.size 0).add (s.H.size + 1) (w.heap.size + 1) 0).at_ (s.H.size + 1)).isSome = true := by rw [Place.add_same]; rfl
 have hbL : ((σ.add s.H.size w.heap.size 0).add (s.H.size + 1) (w.heap.size + 1) 0).blk (s.H.size + 1) = w.heap.size + 1 := blk_add_same _ _ _ _
 have hds : ∀ k ∈ s.H.size :: s.ds, (((σ.add s.H.size w.heap.size 0).add (s.H.size + 1) (w.heap.size + 1) 0).at_ k).isSome = true := by
  intro k hk
  rcases List.mem_cons.1 hk with rfl | hk
  ·exact agb.placed hpl
  ·exact agb.placed (aga.placed (hA.dok k hk))
 have hmk : [({ target := .collected w.heap.size, args := #[] } : Deferred)] ++ a.defers = (s.H.size :: s.ds).map (mark ((σ.add s.H.size w.heap.size 0).add (s.H.size + 1) (w.heap.size + 1) 0)) := by
  simp only [List.map_cons,List.singleton_append]
  congr 1
  ·simp only [mark,agb.blk hpl,blk_add_same]
  ·rw [hA.ds]
   exact List.map_congr_left fun k hk => by simp only [mark,agb.blk (aga.placed (hA.dok k hk)),aga.blk (hA.dok k hk)]
 obtain ⟨d, w₁', f', args, w₂, q1, q2, q3, q4, q5⟩ := range_core (n := n) hF hr hR hA hg hf rb xx hL hmk hds hcall hg₂ hst hp
 rw [hbL] at q1 q5
 exact ⟨w.heap.size + 1, _, _, d, w₁', f', args, w₂, run_enterLoop_outer fn' a.tmps ps assign body, q1, q2, q3, q4, q5⟩
theorem SCode.rangeFunc_inner {l : Nat} {g : Operand} {ps : Array Tmp} {assign body : Code} {f : FuncId} {fn : Func} {c : Code} {first captured : Array Value} {s : St} {H₂ : AHeap} {v : Value} {m₁ m₂ : Nat}
  {st₀ : LoopState} {pend₀ : Option Code} {t₀ : List Value} {ps₀ : Array Tmp} {as₀ bd₀ : Code} {d₀ : Nat}
  {st : LoopState} {pend : Option Code} {t' : List Value} {ps' : Array Tmp} {as' bd' : Code} {d' : Nat} {e : Exit} {s' : St}
  (hg₀ : s.H.get l = .loop st₀ pend₀ t₀ ps₀ as₀ bd₀ d₀)
  (hg : aval s.t g = some (.func (.func f) first captured)) (hf : HasCode P f fn c)
  (hcall : SCall P f (first.toList ++ [yieldV s.H.size] ++ captured.toList) (s.H.alloc (.loop .ready none s.t ps assign body d₀)) v H₂ m₁)
  (hg₂ : H₂.get s.H.size = .loop st pend t' ps' as' bd' d') (hst : st ≠ .busy)
  (hp : SPend P (some l) pend ⟨s.t, H₂.put s.H.size (.loop .exhausted pend t' ps' as' bd' d'), s.ds⟩ e s' m₂) :
  SCode P (some l) (.rangeFunc g ps assign body) s e s' (min (min s.H.size m₁) (min s.H.size m₂)) := by
 intro F n σ w a hF hr hR hA
 refine wpIn_rangeFunc fun fn' _ => ?_
 have hro : F.round = some (σ.blk l) := hr.1
 have hl := hr.2 l rfl
 obtain ⟨_, _, hd₀, fn₀, hw₀⟩ := hR.loopAt hl hg₀
 have aga := hR.agree_add w.heap.size 0
 have rb := hR.alloc (.loop { state := .ready, pending := none, fn := fn', tmps := a.tmps, params := ps, assign, body, defers := σ.blk d₀ }) (.loop .ready none s.t ps assign body d₀) 0 (by
  refine ⟨rfl, fun v hv => aga.okv (hA.ok v hv), aga.placed hd₀, fn', ?_⟩
  rw [World.alloc_heap_new, hA.tmps, aga.map hA.ok, aga.blk hd₀]) (.inr ⟨[], rfl⟩)
 have xb := Ext.alloc hR (.loop { state := .ready, pending := none, fn := fn', tmps := a.tmps, params := ps, assign, body, defers := σ.blk d₀ }) (.loop .ready none s.t ps assign body d₀) 0
 have hL : ((σ.add s.H.size w.heap.size 0).at_ s.H.size).isSome = true := by rw [Place.add_same]; rfl
 have hmk : ([] : List Deferred) ++ a.defers = s.ds.map (mark (σ.add s.H.size w.heap.size 0)) := by
  rw [List.nil_append, hA.ds]
  exact List.map_congr_left fun k hk => by simp only [mark,aga.blk (hA.dok k hk)]
 obtain ⟨d, w₁', f', args, w₂, q1, q2, q3, q4, q5⟩ := range_core (n := n) hF hr hR hA hg hf rb xb hL hmk (fun k hk => aga.placed (hA.dok k hk)) hcall hg₂ hst hp
 rw [blk_add_same] at q1 q5
 rw [hro]
 exact ⟨w.heap.size, _, _, d, w₁', f', args, w₂, run_enterLoop_inner fn' a.tmps ps assign body hw₀, q1, q2, q3, q4, q5⟩
end Go.Am
