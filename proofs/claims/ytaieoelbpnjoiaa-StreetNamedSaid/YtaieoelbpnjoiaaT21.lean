import Derived.Test.YtaieoelbpnjoiaaT20
set_option linter.unusedSimpArgs false
set_option linter.unusedVariables false
namespace Go.Am
open Go.Proofs
variable {T : Tab} {P : Program} {N L : Nat} {H : AHeap} {Q : Bool → Value → AHeap → Prop}
theorem sl_flat {H : AHeap} {b : Nat} {l : List Str} (hb : b < H.size) (h : cellsOf (H.get b) = some (flat l)) : Sl H (some ⟨b, 0, none⟩) l :=
 ⟨fun _ => ⟨b, 0, flat l, rfl, hb, h, fun i s hs => by rw [Nat.zero_add]; exact part_flat hs⟩, fun b' o s c _ ha hc => by
  cases ha
  rw [h] at hc
  cases hc
  rw [List.drop_zero, ← flat_length, List.take_length]⟩
structure Grow (H : AHeap) (tb : Nat) (v : Value) (i : Nat) (cs : List Value) (el z : Nat) : Prop where
 nil : i = 0 → v = .slice none 0 0
 cons : i ≠ 0 → ∃ b al, v = .slice (some ⟨b, 0, none⟩) i (OPEN + z) ∧ tb < b ∧ b < H.size ∧ H.get b = .rw cs el true al ∧ (∀ j ∈ al, tb < j ∧ j < b)
structure FrU (m : Nat) (H H' : AHeap) : Prop where
 size : H.size ≤ H'.size
 same : ∀ k, k < m → H'.get k = H.get k
theorem Fr.part {H H₁ H₂ : AHeap} {m : Nat} (a : Fr H H₁) (b : FrU m H₁ H₂) (h : H.size ≤ m) : Fr H H₂ := ⟨Nat.le_trans a.size b.size, fun k hk => (b.same k (by omega)).trans (a.same k hk)⟩
theorem Grow.fr {H H' : AHeap} {tb i el z : Nat} {v : Value} {cs : List Value} (g : Grow H tb v i cs el z) (f : Fr H H') : Grow H' tb v i cs el z :=
 ⟨g.nil, fun h => by
  obtain ⟨b, al, h1, h2, h3, h4, h5⟩ := g.cons h
  exact ⟨b, al, h1, h2, Nat.lt_of_lt_of_le h3 f.size, by rw [f.same b h3]; exact h4, h5⟩⟩
theorem Grow.put {H : AHeap} {tb i el z k : Nat} {v : Value} {cs : List Value} {blk : ABlk} (g : Grow H tb v i cs el z) (hk : k ≤ tb) : Grow (H.put k blk) tb v i cs el z :=
 ⟨g.nil, fun h => by
  obtain ⟨b, al, h1, h2, h3, h4, h5⟩ := g.cons h
  exact ⟨b, al, h1, h2, by rw [zdf]; exact h3, by rw [zdd (by omega)]; exact h4, h5⟩⟩
theorem grow_append {ty el z by' tb i b cap : Nat} {sv : Value} {cs news : List Value} (hs : apS tabA ty = some (el, z, by')) (g : Grow H tb sv i cs el z) (htb : tb < H.size) (hcs : cs.length = i * z) (hx : srcCells H ⟨b, 0, none⟩ (1 * z) = some news) (hb : (i + 1) * by' ≤ 140737488355328) (hn : i + 1 ≤ 9223372036854775807)
  (h1 : oneCells news = true) (hL : L ≤ tb) (hq : ∀ a' c' H', FrU (tb + 1) H H' → Grow H' tb (.slice a' (i + 1) c') (i + 1) (cs ++ news) el z → Q false (.slice a' (i + 1) c') H') : apK tabA H ty sv (.slice (some ⟨b, 0, none⟩) 1 cap) L Q := by
 by_cases hi : i = 0
 ·subst hi
  rw [g.nil rfl, apK_nil hs hx (by omega) (by omega) (by omega) h1, zba _ (by omega)]
  refine hq _ _ _ ⟨by simp only [zde]; omega, fun k hk => zdb (by omega)⟩ ⟨fun h => by omega, fun _ => ⟨H.size, [], rfl, htb, by simp only [zde]; omega, ?_, by simp⟩⟩
  have : cs = [] := List.length_eq_zero_iff.1 (by omega)
  subst this
  exact zcz
 ·obtain ⟨b₀, al, rfl, k1, k2, k3, k4⟩ := g.cons hi
  rw [apK_more hs hx (by omega) (by exact hb) (by omega) h1 k3 hcs rfl, zba _ (le_minAl (by omega) (fun j hj => by have := k4 j hj; omega))]
  refine hq _ _ _ ⟨by simp only [zde,zdf,zdg]; omega, fun k hk => ?_⟩ ⟨fun h => by omega, fun _ => ⟨H.size, [b₀], rfl, htb, by simp only [zde,zdf,zdg]; omega, ?_, by simpa using ⟨k1, k2⟩⟩⟩
  ·rw [zdb (by simp only [zdf,zdg]; omega), zdd (by omega), get_kill (fun hm => by have := k4 k hm; omega)]
  ·exact zda (by simp only [zdf,zdg])
theorem Grow.sl {H : AHeap} {tb c z el : Nat} {a : Option Addr} {l : List Str} (g : Grow H tb (.slice a l.length c) l.length (flat l) el z) : Sl H a l := ⟨fun hne => by
 obtain ⟨b, al, h1, h2, h3, h4, h5⟩ := g.cons (by simpa using hne)
 cases h1
 exact (sl_flat (H := H) (b := b) h3 (by rw [h4]; rfl)).get hne, fun b o s c hne ha hc => by
 obtain ⟨b, al, h1, h2, h3, h4, h5⟩ := g.cons (by simpa using hne)
 cases h1
 exact (sl_flat (H := H) (b := b) h3 (by rw [h4]; rfl)).row _ _ _ _ hne ha hc⟩
theorem sl_new {H : AHeap} {b : Nat} {l : List Str} (h : H.get b = .rw (flat l) 45 true []) (hb : b < H.size) : Sl H (some ⟨b, 0, none⟩) l := sl_flat hb (by rw [h]; rfl)
theorem binV_nil_some {ty : TypeId} {x y : Operand} {l c z : Nat} {a : Addr} (h : esS T ty = some z) : binV T P .eql ty x y (.slice (some a) l c) (.slice none 0 0) = some (.bool false) := by
 unfold esS at h
 unfold binV nilV
 rw [show gr (.slice (some a) l c) = false from rfl]
 simp only [Bool.false_and,cond_false]
 cases hu : T.und ty with
 | none => rw [hu] at h; cases h
 | some d => cases d <;> first | rfl | (rw [hu] at h; cases h)
structure New (H H' : AHeap) (a : Option Addr) (cap : Nat) (l : List Str) : Prop where
 fr : Fr H H'
 sl : Sl H' a l
 nl : a = none → cap = 0
 blk : l ≠ [] → ∃ k, a = some ⟨k, 0, none⟩ ∧ H.size ≤ k ∧ k < H'.size ∧ H'.get k = .rw (flat l) 45 true []
theorem New.nil {H H' : AHeap} {a : Option Addr} {cap : Nat} (f : Fr H H') (h : a = none → cap = 0) : New H H' a cap [] := ⟨f, ⟨fun h => absurd rfl h, fun _ _ _ _ h => absurd rfl h⟩, h, fun h => absurd rfl h⟩
theorem New.one {H : AHeap} {k cap : Nat} {H' : AHeap} {l : List Str} (f : Fr H H') (h1 : H.size ≤ k) (h2 : k < H'.size) (h3 : H'.get k = .rw (flat l) 45 true []) : New H H' (some ⟨k, 0, none⟩) cap l := ⟨f, sl_new h3 h2, (fun h => by cases h), fun _ => ⟨k, rfl, h1, h2, h3⟩⟩
theorem New.ground {H H' : AHeap} {a : Option Addr} {cap : Nat} {l : List Str} (n : New H H' a cap l) (h : a = none) : New H H a cap l := by
 have hnil : l = [] := Classical.byContradiction fun hne => by
  obtain ⟨k, h1, _⟩ := n.blk hne
  rw [h] at h1; cases h1
 subst hnil
 exact New.nil (Fr.refl _) n.nl
theorem New.some {H H' : AHeap} {a : Option Addr} {cap : Nat} {l : List Str} (n : New H H' a cap l) (h : l ≠ []) : a ≠ none := fun e => by
 obtain ⟨k, h1, _⟩ := n.blk h
 rw [e] at h1; cases h1
theorem New.from {H₀ H H' : AHeap} {a : Option Addr} {cap : Nat} {l : List Str} (n : New H H' a cap l) (f : Fr H₀ H) : New H₀ H' a cap l :=
 ⟨f.trans n.fr, n.sl, n.nl, fun h => by obtain ⟨k, h1, h2, h3⟩ := n.blk h; exact ⟨k, h1, Nat.le_trans f.size h2, h3⟩⟩
end Go.Am
