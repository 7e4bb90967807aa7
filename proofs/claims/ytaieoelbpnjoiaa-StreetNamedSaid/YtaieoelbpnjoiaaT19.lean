import Derived.Test.YtaieoelbpnjoiaaT18
set_option linter.unusedSimpArgs false
set_option linter.unusedVariables false
namespace Go.Am
open Go.Proofs
variable {N : Nat} {H : AHeap}
structure Str where
 fr : Int
 to : Int
 mi : Int
 up : Int
 wi : Int
 be : Int
 bk : Bool
 lo : Int
 hi : Int
def Str.enc (s : Str) : List Value := [.int .i64 s.fr, .int .i64 s.to, .int .i64 s.mi, .int .i64 s.up, .int .i64 s.wi, .int .i64 s.be, .bool s.bk, .int .i64 s.lo, .int .i64 s.hi]
def flat : List Str → List Value
 | [] => []
 | s :: l => s.enc ++ flat l
theorem enc_len (s : Str) : s.enc.length = 9 := rfl
theorem flat_length : ∀ l, (flat l).length = l.length * 9
 | [] => rfl
 | s :: l => by simp only [flat,List.length_append,flat_length l,List.length_cons,Str.enc,List.length_nil]; omega
theorem flat_drop : ∀ (l : List Str) (i : Nat) (s : Str), l[i]? = some s → ((flat l).drop (i * 9)).take 9 = s.enc
 | [], i, s, h => by simp at h
 | t :: l, 0, s, h => by
  simp only [List.getElem?_cons_zero,Option.some.injEq] at h
  subst h; rfl
 | t :: l, i + 1, s, h => by
  have : (i + 1) * 9 = 9 + i * 9 := by omega
  rw [this]
  show ((t.enc ++ flat l).drop (9 + i * 9)).take 9 = s.enc
  rw [← List.drop_drop]
  exact flat_drop l i s (by simpa using h)
theorem part_flat {l : List Str} {i : Nat} {s : Str} (h : l[i]? = some s) : part (flat l) (i * 9) 10 = some (.agg ⟨s.enc⟩) := by
 unfold part
 simp only [flat_drop l i s h]; rfl
def off (a lo hi : Int) : Bool := decide (a < lo) || decide (hi < a)
structure Fr (H H' : AHeap) : Prop where
 size : H.size ≤ H'.size
 same : ∀ k, k < H.size → H'.get k = H.get k
theorem Fr.refl (H : AHeap) : Fr H H := ⟨Nat.le_refl _, fun _ _ => rfl⟩
theorem Fr.trans {H H₁ H₂ : AHeap} (a : Fr H H₁) (b : Fr H₁ H₂) : Fr H H₂ := ⟨Nat.le_trans a.size b.size, fun k hk => (b.same k (Nat.lt_of_lt_of_le hk a.size)).trans (a.same k hk)⟩
theorem Fr.alloc (H : AHeap) (b : ABlk) : Fr H (H.alloc b) := ⟨by simp, fun k hk => zdb hk⟩
theorem Fr.allocd {H H' : AHeap} (a : Fr H H') (b : ABlk) : Fr H (H'.alloc b) := a.trans (Fr.alloc _ _)
theorem Fr.kill {H H' : AHeap} (a : Fr H H') {l : List Nat} (h : ∀ j ∈ l, H.size ≤ j) : Fr H (H'.kill l) := ⟨by simp [a.size], fun j hj => by rw [get_kill (fun hm => by have := h j hm; omega)]; exact a.same j hj⟩
theorem Fr.put {H H' : AHeap} (a : Fr H H') {k : Nat} (hk : H.size ≤ k) (b : ABlk) : Fr H (H'.put k b) := ⟨by simp [a.size], fun j hj => by rw [zdd (by omega)]; exact a.same j hj⟩
structure Sl (H : AHeap) (a : Option Addr) (l : List Str) : Prop where
 get : l ≠ [] → ∃ b o c, a = some ⟨b, o, none⟩ ∧ b < H.size ∧ cellsOf (H.get b) = some c ∧ ∀ i s, l[i]? = some s → part c (o + i * 9) 10 = some (.agg ⟨s.enc⟩)
 row : ∀ b o s c, l ≠ [] → a = some ⟨b, o, s⟩ → cellsOf (H.get b) = some c → (c.drop o).take (l.length * 9) = flat l
theorem Sl.fr {H H' : AHeap} {a : Option Addr} {l : List Str} (h : Sl H a l) (f : Fr H H') : Sl H' a l := ⟨fun hl => by
 obtain ⟨b, o, c, h1, h2, h3, h4⟩ := h.get hl
 exact ⟨b, o, c, h1, Nat.lt_of_lt_of_le h2 f.size, by rw [f.same b h2]; exact h3, h4⟩, fun b o s c hl ha hc => by
 obtain ⟨b', o', c', h1, h2, h3, h4⟩ := h.get hl
 subst h1
 cases ha
 exact h.row b o none c hl rfl (by rw [← f.same b h2]; exact hc)⟩
theorem Sl.src {H : AHeap} {b o : Nat} {s : Option Nat} {l : List Str} (h : Sl H (some ⟨b, o, s⟩) l) (hl : l ≠ []) : srcCells H ⟨b, o, s⟩ (l.length * 9) = some (flat l) := by
 obtain ⟨b', o', c', h1, h2, h3, h4⟩ := h.get hl
 cases h1
 unfold srcCells
 rw [h3]
 simp only [h.row b o none c' hl rfl h3,flat_length,show Nat.beq (l.length * 9) (l.length * 9) = true by simp,cond_true]
def bad1 (C : Int) (s : Str) : Bool := off s.fr 0 (C - 1) || (off s.to 0 (C - 1) || decide (s.fr = s.to))
def bad2 (s : Str) : Bool := off s.mi 1 30 || (off s.up 0 3 || (off s.wi 1 9 || (off s.be 0 9 || (off s.lo 0 239 || off s.hi 0 239))))
def chk (C : Int) (l : List Str) : Int := if off C 1 8 = true then 4 else if 16 < l.length then 3 else if l.any (bad1 C) = true then 2 else if l.any bad2 = true then 4 else 0
theorem off_iff {a lo hi : Int} : off a lo hi = false ↔ lo ≤ a ∧ a ≤ hi := by unfold off; simp
end Go.Am
