/- What the tables say of more types and functions. -/
import Derived.Test.YtdjklljbninmgaaT27
import Derived.Test.YtdjklljbninmgaaT32
set_option linter.unusedSimpArgs false
set_option linter.unusedVariables false
set_option linter.defProp false
namespace Go.Am
open Go.Proofs
theorem st_alS_26 : alS tabA 26 = some [(.int IntKind.i64 0), (.int IntKind.i64 0)] := by kernel_rfl
theorem st_apS_22 : apS tabA 22 = some (45, 9, 72) := by kernel_rfl
theorem st_bdS_140 : bdS tabA 140 = some ([(.slice none 0 0), (.int IntKind.i64 0), (.int IntKind.u64 0)], [(0, 1), (1, 1), (2, 1)]) := by kernel_rfl
theorem st_bdS_26 : bdS tabA 26 = some ([(.int IntKind.i64 0), (.int IntKind.i64 0)], [(0, 1), (1, 1)]) := by kernel_rfl
theorem st_bdS_45 : bdS tabA 45 = some ([(.int IntKind.i64 0), (.int IntKind.i64 0), (.int IntKind.i64 0), (.int IntKind.i64 0), (.int IntKind.i64 0), (.int IntKind.i64 0), (.bool false), (.int IntKind.i64 0), (.int IntKind.i64 0)], [(0, 1), (1, 1), (2, 1), (3, 1), (4, 1), (5, 1), (6, 1), (7, 2)]) := by kernel_rfl
theorem st_bdS_50 : bdS tabA 50 = some ([(.int IntKind.i64 0), (.int IntKind.i64 0)], [(0, 1), (1, 1)]) := by kernel_rfl
theorem st_brS_22_1 : brS tabA 22 1 = some (9, 45, [(.int IntKind.i64 0), (.int IntKind.i64 0), (.int IntKind.i64 0), (.int IntKind.i64 0), (.int IntKind.i64 0), (.int IntKind.i64 0), (.bool false), (.int IntKind.i64 0), (.int IntKind.i64 0)]) := by kernel_rfl
theorem st_esS_81 : esS tabA 81 = some 1 := by kernel_rfl
theorem st_faS_140_0 : faS tabA 140 0 = some 0 := by kernel_rfl
theorem st_faS_140_1 : faS tabA 140 1 = some 1 := by kernel_rfl
theorem st_faS_140_2 : faS tabA 140 2 = some 2 := by kernel_rfl
theorem st_inS_138 : inS tabA 138 = some 1 := by kernel_rfl
theorem st_inS_22 : inS tabA 22 = some 1 := by kernel_rfl
theorem st_inS_26 : inS tabA 26 = some 2 := by kernel_rfl
theorem st_ldS_138 : ldS tabA 138 = some 0 := by kernel_rfl
theorem st_ldS_5 : ldS tabA 5 = some 0 := by kernel_rfl
theorem st_ldS_81 : ldS tabA 81 = some 0 := by kernel_rfl
def ysv := (And.intro (And.intro (And.intro (And.intro @st_alS_26 @st_apS_22) (And.intro @st_bdS_140 @st_bdS_26)) (And.intro (And.intro @st_bdS_45 @st_bdS_50) (And.intro @st_brS_22_1 @st_esS_81))) (And.intro (And.intro (And.intro @st_faS_140_0 @st_faS_140_1) (And.intro @st_faS_140_2 @st_inS_138)) (And.intro (And.intro @st_inS_22 @st_inS_26) (And.intro @st_ldS_138 (And.intro @st_ldS_5 @st_ldS_81)))))
end Go.Am
/- What the tables say of more types and functions. -/
set_option linter.defProp false
namespace Go.Am
open Go.Proofs
theorem st_alS_151 : alS tabA 151 = some [(.bool false), (.bool false), (.bool false), (.bool false), (.bool false), (.bool false), (.bool false), (.bool false)] := by kernel_rfl
theorem st_alS_152 : alS tabA 152 = some [.nilFunc] := by kernel_rfl
theorem st_alS_52 : alS tabA 52 = some [(.slice none 0 0)] := by kernel_rfl
theorem st_apS_65 : apS tabA 65 = some (28, 2, 16) := by kernel_rfl
theorem st_arS_151 : arS tabA 151 = some (8, 1) := by kernel_rfl
theorem st_brS_65_1 : brS tabA 65 1 = some (2, 28, [(.int IntKind.i64 0), (.bool false)]) := by kernel_rfl
theorem st_esS_65 : esS tabA 65 = some 2 := by kernel_rfl
theorem st_inS_152 : inS tabA 152 = some 1 := by kernel_rfl
theorem st_inS_52 : inS tabA 52 = some 1 := by kernel_rfl
theorem st_ldS_152 : ldS tabA 152 = some 0 := by kernel_rfl
theorem st_ldS_52 : ldS tabA 52 = some 0 := by kernel_rfl
def ysw := (And.intro (And.intro (And.intro @st_alS_151 @st_alS_152) (And.intro @st_alS_52 (And.intro @st_apS_65 @st_arS_151))) (And.intro (And.intro @st_brS_65_1 (And.intro @st_esS_65 @st_inS_152)) (And.intro @st_inS_52 (And.intro @st_ldS_152 @st_ldS_52))))
end Go.Am
/- More operations: nil checks, conversions, the least and the greatest, unsigned numbers. -/
namespace Go.Am
open Go.Proofs
variable {T : Tab} {P : Program} {N L : Nat} {H : AHeap}
section
variable {ex : Exec} {t : Operand → Option Value} {Q : Bool → Value → AHeap → Prop}
end
theorem planB_of {d : List (Option Nat)} {ops : List Oper} {env : Nat → Value} {H : AHeap} {r : Option (List (Nat × ABlk))} (hd : ops.map (·.dst) = d) (h1 : d ≠ [some 22, some 23, some 24, some 25, some 9, some 10, none, none]) (h2 : d ≠ [some 87, some 88, some 89, some 90, some 91, some 92, some 93, some 94, some 95, some 11]) (hr : planB d env = r) : tabA.plan ops env H = r := by
  show planA ops env H = _
  unfold planA
  rw [hd, if_neg h1, if_neg h2, hr]
/-! ### Unsigned numbers -/
section
variable {ty : TypeId} {x y : Operand} {a b : Int}
end
end Go.Am
/- The chute: numbers that come out of it, whatever they are. -/
namespace Go.Am
open Go.Proofs
variable {T : Tab} {P : Program} {N L : Nat} {H : AHeap} {Q : Bool → Value → AHeap → Prop}

/-- All but one block is as it was. -/
structure FrX (k : Nat) (H H' : AHeap) : Prop where
  size : H.size ≤ H'.size
  same : ∀ j, j < H.size → j ≠ k → H'.get j = H.get j
theorem FrX.refl (k : Nat) (H : AHeap) : FrX k H H := ⟨Nat.le_refl _, fun _ _ _ => rfl⟩
theorem FrX.trans {k : Nat} {H H₁ H₂ : AHeap} (a : FrX k H H₁) (b : FrX k H₁ H₂) : FrX k H H₂ := ⟨Nat.le_trans a.size b.size, fun j h1 h2 => (b.same j (Nat.lt_of_lt_of_le h1 a.size) h2).trans (a.same j h1 h2)⟩
theorem FrX.of {k : Nat} {H H' : AHeap} (f : Fr H H') : FrX k H H' := ⟨f.size, fun j h _ => f.same j h⟩
theorem FrX.put {k : Nat} {H H' : AHeap} (f : FrX k H H') (b : ABlk) : FrX k H (H'.put k b) := ⟨by rw [zdf]; exact f.size, fun j h1 h2 => by rw [zdd h2]; exact f.same j h1 h2⟩
theorem FrX.above {k : Nat} {H H' : AHeap} (f : FrX k H H') {H₀ : AHeap} (f0 : Fr H₀ H) (h : H₀.size ≤ k) : Fr H₀ H' := ⟨Nat.le_trans f0.size f.size, fun j hj => (f.same j (Nat.lt_of_lt_of_le hj f0.size) (by omega)).trans (f0.same j hj)⟩
/-- A chute: bytes, how many are used, and what is stirred of them. -/
structure Chu (H : AHeap) (k : Nat) (a : Option Addr) (bs : List Int) (cap : Nat) : Prop where
  lt : k < H.size
  blk : ∃ u s : Int, H.get k = .rw [.slice a bs.length cap, .int .i64 u, .int .u64 s] 140 false [] ∧ 0 ≤ u ∧ u ≤ bs.length ∧ 0 ≤ s ∧ s < 18446744073709551616
  row : bs ≠ [] → ∃ b o c, a = some ⟨b, o, none⟩ ∧ b < H.size ∧ H.get b = .ro c ∧ ∀ i x, bs[i]? = some x → c[o + i]? = some (.int .u8 x)
  byte : ∀ x ∈ bs, 0 ≤ x ∧ x < 256
  len : bs.length < 9223372036854775808
section
variable {k cap : Nat} {a : Option Addr} {bs : List Int}
theorem Chu.fr {H' : AHeap} (h : Chu H k a bs cap) (f : Fr H H') : Chu H' k a bs cap where
  lt := Nat.lt_of_lt_of_le h.lt f.size
  blk := by rw [f.same k h.lt]; exact h.blk
  row hne := by
    obtain ⟨b, o, c, h1, h2, h3, h4⟩ := h.row hne
    exact ⟨b, o, c, h1, Nat.lt_of_lt_of_le h2 f.size, by rw [f.same b h2]; exact h3, h4⟩
  byte := h.byte
  len := h.len
theorem Chu.put (h : Chu H k a bs cap) {u s : Int} (hu : 0 ≤ u ∧ u ≤ bs.length) (hs : 0 ≤ s ∧ s < 18446744073709551616) : Chu (H.put k (.rw [.slice a bs.length cap, .int .i64 u, .int .u64 s] 140 false [])) k a bs cap where
  lt := by rw [zdf]; exact h.lt
  blk := ⟨u, s, zdc h.lt, hu.1, hu.2, hs⟩
  row hne := by
    obtain ⟨b, o, c, h1, h2, h3, h4⟩ := h.row hne
    obtain ⟨u, s, h5, _⟩ := h.blk
    refine ⟨b, o, c, h1, by rw [zdf]; exact h2, ?_, h4⟩
    rw [zdd (fun e => by subst e; rw [h5] at h3; cases h3)]
    exact h3
  byte := h.byte
  len := h.len
/-- A block that is no chute may change. -/
theorem Chu.other {j : Nat} {b' : ABlk} (h : Chu H k a bs cap) (hj : j ≠ k) (hr : ∀ c, H.get j ≠ .ro c) : Chu (H.put j b') k a bs cap where
  lt := by rw [zdf]; exact h.lt
  blk := by rw [zdd (Ne.symm hj)]; exact h.blk
  row hne := by
    obtain ⟨b, o, c, h1, h2, h3, h4⟩ := h.row hne
    refine ⟨b, o, c, h1, by rw [zdf]; exact h2, ?_, h4⟩
    rw [zdd (fun e => by subst e; exact hr c h3)]
    exact h3
  byte := h.byte
  len := h.len
theorem resK_elim {q : Res} {Q : Bool → Value → AHeap → Prop} (h : resK q L Q) : ∃ f v H' m, q = some (f, v, H', m) ∧ L ≤ m ∧ Q f v H' := by
  unfold resK at h
  cases q with
  | none => exact h.elim
  | some p =>
    obtain ⟨f, v, H', m⟩ := p
    exact ⟨f, v, H', m, rfl, h⟩
end
end Go.Am
/- Towns and carts that are made of numbers. -/
namespace Go.Am
open Go.Proofs
variable {T : Tab} {P : Program} {N L : Nat} {H : AHeap} {Q : Bool → Value → AHeap → Prop}
section
variable {k cap : Nat} {a : Option Addr} {bs : List Int}
end
end Go.Am
/- Towns that are made of numbers. -/
namespace Go.Am
open Go.Proofs
variable {T : Tab} {P : Program} {N L : Nat} {H : AHeap} {Q : Bool → Value → AHeap → Prop}
/-- A street whose numbers are within their limits, in a town of so many corners. -/
def OkS (C : Int) (s : Str) : Prop := bad1 C s = false ∧ bad2 s = false
/-- While a street is made: its block, and what else the loop knows. -/
structure MI (H H' : AHeap) (k : Nat) (a : Option Addr) (bs : List Int) (cap : Nat) (C m : Int) (i : Nat) (l : List Str) (ga : Option Addr) (gc : Nat) (e : VT) : Prop where
  g20 : gt 98 e 20 = .int .i64 (i : Nat)
  g19 : gt 98 e 19 = .int .i64 m
  g7 : gt 98 e 7 = .pointer (some ⟨H.size + 1, 0, none⟩)
  g6 : gt 98 e 6 = .pointer (some ⟨H.size, 0, none⟩)
  g0 : gt 98 e 0 = .pointer (some ⟨k, 0, none⟩)
  chu : Chu H' k a bs cap
  fr : FrX k H H'
  sz : H.size + 1 < H'.size
  b7 : H'.get (H.size + 1) = .rw [.int .i64 C, .slice ga i gc] 24 false []
  b6 : H'.get H.size = .rw [.int .i64 0, .slice none 0 0] 24 false []
  gw : Grow H' (H.size + 1) (.slice ga i gc) i (flat l) 45 9
  len : l.length = i
  ok : ∀ s ∈ l, OkS C s
section
variable {k cap gc i j : Nat} {a ga : Option Addr} {bs : List Int} {C m : Int} {l : List Str} {H' H'' : AHeap} {e e' : VT}
theorem Grow.ne {tb n z el j : Nat} {v : Value} {cs c : List Value} {ty : TypeId} {al : List Nat} (g : Grow H tb v n cs el z) (hj : H.get j = .rw c ty false al) (blk : ABlk) : Grow (H.put j blk) tb v n cs el z :=
  ⟨g.nil, fun h => by
    obtain ⟨b, al, h1, h2, h3, h4, h5⟩ := g.cons h
    refine ⟨b, al, h1, h2, by rw [zdf]; exact h3, ?_, h5⟩
    rw [zdd (fun e => by subst e; rw [hj] at h4; cases h4)]
    exact h4⟩
theorem Grow.frx {tb n z el : Nat} {v : Value} {cs c : List Value} {ty : TypeId} {al : List Nat} (g : Grow H tb v n cs el z) (hk : H.get k = .rw c ty false al) (f : FrX k H H') : Grow H' tb v n cs el z :=
  ⟨g.nil, fun h => by
    obtain ⟨b, al, h1, h2, h3, h4, h5⟩ := g.cons h
    refine ⟨b, al, h1, h2, Nat.lt_of_lt_of_le h3 f.size, ?_, h5⟩
    rw [f.same b h3 (fun e => by subst e; rw [hk] at h4; cases h4)]
    exact h4⟩
/-- The chute has moved on. -/
theorem MI.frx (I : MI H H' k a bs cap C m i l ga gc e) (hk : k < H.size) (hc : Chu H'' k a bs cap) (f : FrX k H' H'') (h : Keep 98 [0, 6, 7, 19, 20] e e') : MI H H'' k a bs cap C m i l ga gc e' where
  g20 := (h 20 (by decide)).trans I.g20
  g19 := (h 19 (by decide)).trans I.g19
  g7 := (h 7 (by decide)).trans I.g7
  g6 := (h 6 (by decide)).trans I.g6
  g0 := (h 0 (by decide)).trans I.g0
  chu := hc
  fr := I.fr.trans f
  sz := Nat.lt_of_lt_of_le I.sz f.size
  b7 := by rw [f.same _ I.sz (by omega)]; exact I.b7
  b6 := by rw [f.same _ (by have := I.sz; omega) (by omega)]; exact I.b6
  gw := by
    obtain ⟨u, s, hb, _⟩ := I.chu.blk
    exact I.gw.frx hb f
  len := I.len
  ok := I.ok
/-- Another block, that is new, has changed. -/
theorem MI.put {c : List Value} {ty : TypeId} {al : List Nat} (I : MI H H' k a bs cap C m i l ga gc e) (hk : k < H.size) (hj : H.size + 1 < j) (hb : H'.get j = .rw c ty false al) (blk : ABlk) : MI H (H'.put j blk) k a bs cap C m i l ga gc e where
  g20 := I.g20
  g19 := I.g19
  g7 := I.g7
  g6 := I.g6
  g0 := I.g0
  chu := I.chu.other (by omega) (fun c' e => by rw [hb] at e; cases e)
  fr := ⟨by rw [zdf]; exact I.fr.size, fun q h1 h2 => by rw [zdd (by omega)]; exact I.fr.same q h1 h2⟩
  sz := by rw [zdf]; exact I.sz
  b7 := by rw [zdd (by omega)]; exact I.b7
  b6 := by rw [zdd (by omega)]; exact I.b6
  gw := I.gw.ne hb blk
  len := I.len
  ok := I.ok
theorem MI.fr' (I : MI H H' k a bs cap C m i l ga gc e) (hk : k < H.size) (f : Fr H' H'') (h : Keep 98 [0, 6, 7, 19, 20] e e') : MI H H'' k a bs cap C m i l ga gc e' :=
  I.frx hk (I.chu.fr f) (FrX.of f) h
theorem chk_of {l : List Str} (hC : 1 ≤ C ∧ C ≤ 8) (hl : l.length ≤ 16) (h : ∀ s ∈ l, OkS C s) : chk C l = 0 := by
  unfold chk
  rw [off_iff.2 hC, if_neg (by simp), if_neg (by omega), if_neg, if_neg]
  · simp only [Bool.not_eq_true]
    rw [List.any_eq_false]
    intro s hs
    rw [(h s hs).2]; simp
  · simp only [Bool.not_eq_true]
    rw [List.any_eq_false]
    intro s hs
    rw [(h s hs).1]; simp
end
end Go.Am
