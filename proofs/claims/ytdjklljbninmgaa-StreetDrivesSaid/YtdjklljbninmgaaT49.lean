/- The corners that a cart could reach: a visit, on the heap. -/
import Derived.Test.YtdjklljbninmgaaT48
import Derived.Test.YtdjklljbninmgaaT47
set_option linter.unusedSimpArgs false
set_option linter.unusedVariables false
namespace Go.Am
open Go.Proofs
variable {T : Tab} {P : Program} {N L : Nat} {H : AHeap} {Q : Bool → Value → AHeap → Prop}
def visF (kr kj kv : Nat) : Value := .func (.func 105) ⟨[]⟩ ⟨[.pointer (some ⟨kr, 0, none⟩), .pointer (some ⟨kj, 0, none⟩), .pointer (some ⟨kv, 0, none⟩)]⟩
/-- What a visit finds on the heap. -/
structure VH (H₀ : AHeap) (l : List Str) (C w ld : Int) (a : Option Addr) (cap kr kj kv : Nat) (R : List Bool) (H : AHeap) : Prop where
  f0 : Fr H₀ H
  bj : H.get kj = .rw [.int .i64 C, .slice a l.length cap, .int .i64 w, .int .i64 ld, .int .i64 (-1)] 124 false []
  bf : H.get kv = .rw [visF kr kj kv] 152 false []
  br : H.get kr = .rw (bv R) 151 false []
  lj : kj < H.size
  lv : kv < H.size
  lr : kr < H.size
  jr : kj ≠ kr
  vr : kv ≠ kr
  r0 : H₀.size ≤ kr
  len : R.length = 8
section
variable {H₀ H' H₁ : AHeap} {l : List Str} {C w ld : Int} {a : Option Addr} {cap kr kj kv : Nat} {R R' : List Bool}
theorem VH.fr (V : VH H₀ l C w ld a cap kr kj kv R H) (f : Fr H H') : VH H₀ l C w ld a cap kr kj kv R H' :=
  ⟨V.f0.trans f, (f.same _ V.lj).trans V.bj, (f.same _ V.lv).trans V.bf, (f.same _ V.lr).trans V.br, Nat.lt_of_lt_of_le V.lj f.size, Nat.lt_of_lt_of_le V.lv f.size, Nat.lt_of_lt_of_le V.lr f.size, V.jr, V.vr, V.r0, V.len⟩
theorem VH.frx (V : VH H₀ l C w ld a cap kr kj kv R H) (f : FrX kr H H') (hb : H'.get kr = .rw (bv R') 151 false []) (hl : R'.length = 8) : VH H₀ l C w ld a cap kr kj kv R' H' :=
  ⟨f.above V.f0 V.r0, (f.same _ V.lj V.jr).trans V.bj, (f.same _ V.lv V.vr).trans V.bf, hb, Nat.lt_of_lt_of_le V.lj f.size, Nat.lt_of_lt_of_le V.lv f.size, Nat.lt_of_lt_of_le V.lr f.size, V.jr, V.vr, V.r0, hl⟩
theorem VH.put (V : VH H₀ l C w ld a cap kr kj kv R H) {k : Nat} (hk : H₁.size ≤ k) (h0 : Fr H₀ H₁) (hj : kj < H₁.size) (hv : kv < H₁.size) (hr : kr < H₁.size) (blk : ABlk) : VH H₀ l C w ld a cap kr kj kv R (H.put k blk) :=
  ⟨Fr.put V.f0 (by have := h0.size; omega) _, by rw [zdd (by omega)]; exact V.bj, by rw [zdd (by omega)]; exact V.bf, by rw [zdd (by omega)]; exact V.br, by rw [zdf]; exact V.lj, by rw [zdf]; exact V.lv, by rw [zdf]; exact V.lr, V.jr, V.vr, V.r0, V.len⟩
end
end Go.Am
/- Reach: the corners that a cart could reach. -/
namespace Go.Am
open Go.Proofs
variable {T : Tab} {P : Program} {N L : Nat} {H : AHeap} {Q : Bool → Value → AHeap → Prop}
section
variable {a : Option Addr} {cap : Nat} {l : List Str} {C w ld : Int}
end
end Go.Am
/- Out: no street leads away from corners that no leg leaves. -/
namespace Go.Am
open Go.Proofs
variable {T : Tab} {P : Program} {N L : Nat} {H : AHeap} {Q : Bool → Value → AHeap → Prop}
theorem Il.c {a : Option Addr} {t : List Int} (hs : Il H a t) (hne : t ≠ []) : ∃ b o c, a = some ⟨b, o, none⟩ ∧ cellsOf (H.get b) = some c ∧ ∀ i n, t[i]? = some n → c[o + i]? = some (.int .i64 n) := by
  obtain ⟨b, o, c, h1, -, h3, h4⟩ := hs.get hne
  exact ⟨b, o, c, h1, h3, h4⟩
end Go.Am
/- Out: no street leads away from corners that no leg leaves. -/
namespace Go.Am
open Go.Proofs
variable {T : Tab} {P : Program} {N L : Nat} {H : AHeap} {Q : Bool → Value → AHeap → Prop}
section
variable {a ac : Option Addr} {cap kc : Nat} {l : List Str} {C w ld : Int} {t : List Int}
end
end Go.Am
/- A drive by chance: where it ends a cart can be then. -/
namespace Go.Am
open Go.Proofs
variable {T : Tab} {P : Program} {N L : Nat} {H : AHeap} {Q : Bool → Value → AHeap → Prop}
/-- A row of legs between two blocks. -/
structure RowT (H : AHeap) (v : Value) (ls : List (Int × Bool)) (base top : Nat) : Prop where
  nil : ls = [] → v = .slice none 0 0
  cons : ls ≠ [] → ∃ b al, v = .slice (some ⟨b, 0, none⟩) ls.length (OPEN + 2) ∧ base ≤ b ∧ b < top ∧ (∀ j ∈ al, base ≤ j ∧ j < top) ∧ H.get b = .rw (lgs ls) 28 true al
section
variable {base top : Nat} {H' H₁ : AHeap} {v : Value} {ls : List (Int × Bool)}
theorem RowT.fr (R : RowT H v ls base top) (ht : top ≤ H.size) (f : ∀ k, base ≤ k → k < top → H'.get k = H.get k) : RowT H' v ls base top := ⟨R.nil, fun h => by
  obtain ⟨b, al, h1, h2, h3, h4, h5⟩ := R.cons h
  exact ⟨b, al, h1, h2, h3, h4, by rw [f _ h2 h3]; exact h5⟩⟩
theorem RowT.up {top' : Nat} (R : RowT H v ls base top) (h : top ≤ top') : RowT H v ls base top' := ⟨R.nil, fun h' => by
  obtain ⟨b, al, h1, h2, h3, h4, h5⟩ := R.cons h'
  exact ⟨b, al, h1, h2, by omega, fun j hj => by have := h4 j hj; omega, h5⟩⟩
theorem RowT.len (R : RowT H v ls base top) : ∃ c, v = .slice (match v with | .slice a _ _ => a | _ => none) ls.length c := by
  by_cases hne : ls = []
  · subst hne; exact ⟨0, by rw [R.nil rfl]; rfl⟩
  · obtain ⟨b, al, rfl, -⟩ := R.cons hne
    exact ⟨_, rfl⟩
theorem RowT.sameV6 (R : RowT H v ls base top) : sameV 6 v v = true := by
  by_cases h : ls = []
  · rw [R.nil h]; unfold sameV; simp
  · obtain ⟨b, al, rfl, -⟩ := R.cons h
    unfold sameV; simp
theorem Chu.low {H₂ H₉ : AHeap} {k cap : Nat} {a : Option Addr} {bs : List Int} (h : Chu H k a bs cap) (h2 : Chu H₂ k a bs cap) (f : FrX k H H₂) (hb : ∀ j, j < H.size → H₉.get j = H₂.get j) (hs : H₂.size ≤ H₉.size) : Chu H₉ k a bs cap where
  lt := Nat.lt_of_lt_of_le h2.lt hs
  blk := by rw [hb k h.lt]; exact h2.blk
  row hne := by
    obtain ⟨b, o, c, h1, h3, h4, h5⟩ := h.row hne
    obtain ⟨u, s, hk, -⟩ := h.blk
    have hbk : b ≠ k := fun e => by rw [e, hk] at h4; cases h4
    exact ⟨b, o, c, h1, by have := f.size; omega, by rw [hb b h3, f.same b h3 hbk]; exact h4, h5⟩
  byte := h.byte
  len := h.len
end
section
variable {a ab : Option Addr} {cap capb k : Nat} {bs : List Int} {l : List Str} {C w ld fr at₀ : Int}
theorem Can.arr {m : Int} {x : Int} {i : Nat} {s : Str} {b : Bool} (h : Can l w ld fr at₀ m x) (g : Good C l ld) (h0 : 0 ≤ at₀) (ha : at₀ ≤ 240) (hx : nearL s b = x) (hi : l[i]? = some s) (hm : mayL s b w ld = true) (hs : arriveL s b ld m ≠ -1) : Can l w ld fr at₀ (arriveL s b ld m) (farL s b) :=
  (canS_can (x := (farL s b, 0)) ((can_canS h).arr g h0 ha hx hi hm hs)).2
end
end Go.Am
/- The law StreetFastest: plain facts, and what the law knows. -/
namespace Go.Am
open Go.Proofs
variable {T : Tab} {P : Program} {N L : Nat} {H : AHeap} {Q : Bool → Value → AHeap → Prop}
section
variable {l : List Str} {C w ld fr a₀ : Int}
/-- Legs that end somewhere, and more. -/
theorem fol_app : ∀ (ls ls' : List (Int × Bool)) (x m : Int), (folL l w ld x m ls).2.2 = 0 → (∀ p ∈ ls, l[p.1.toNat]? ≠ none) → folL l w ld x m (ls ++ ls') = folL l w ld (folL l w ld x m ls).1 (folL l w ld x m ls).2.1 ls'
  | [], ls', x, m, _, _ => rfl
  | p :: ls, ls', x, m, h, hp => by
    have hp0 := hp p (by simp)
    have hp1 := fun q hq => hp q (List.mem_cons_of_mem _ hq)
    rw [List.cons_append]
    simp only [folL] at h ⊢
    cases hs : l[p.1.toNat]? with
    | none => exact absurd hs hp0
    | some s =>
      rw [hs] at h
      simp only at h ⊢
      split
      · rename_i h1
        rw [if_pos h1] at h
        split
        · rename_i h2
          rw [if_pos h2] at h
          simp at h
        · rename_i h2
          rw [if_neg h2] at h
          exact fol_app ls ls' _ _ h hp1
      · rename_i h1
        rw [if_neg h1] at h
        simp at h
theorem run_fol {x : Stt} {m : Int} {ls : List (Int × Bool)} (h : Run l w ld (nxt dn0) (fr, 0) a₀ ls x m) : folL l w ld fr a₀ ls = (x.1, m, 0) ∧ ∀ p ∈ ls, 0 ≤ p.1 ∧ l[p.1.toNat]? ≠ none := by
  induction h with
  | nil => exact ⟨rfl, fun p hp => by simp at hp⟩
  | @snoc ls x m i r b h hi hm hn ha hlt ih =>
    have hi' := (List.getElem?_eq_some_iff.1 hi).1
    refine ⟨?_, fun p hp => ?_⟩
    · rw [fol_app _ _ _ _ (by rw [ih.1]) (fun p hp => (ih.2 p hp).2), ih.1]
      simp only [folL,Int.toNat_natCast,hi]
      rw [if_pos hn]
      have hp : pasL r b w ld m = arriveL r b ld m := by unfold pasL; rw [hm]; rfl
      rw [hp, if_neg ha]
      rfl
    · rcases List.mem_append.1 hp with hp | hp
      · exact ih.2 p hp
      · simp only [List.mem_singleton] at hp
        subst hp
        simp only [Int.toNat_natCast]
        exact ⟨by omega, by rw [hi]; simp⟩
end
section
variable {l : List Str} {C w ld fr wh wn : Int} {i8 i9 k16 c16 : Nat} {a' b2 : Option Addr} {cap' cap2 : Nat} {bs2 : List Int} {H' : AHeap} {e : VT}
end
end Go.Am
