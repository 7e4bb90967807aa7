import Derived.Test.YtaieoelbpnjoiaaT37
set_option linter.unusedSimpArgs false
set_option linter.unusedVariables false
namespace Go.Am
open Go.Proofs
variable {T : Tab} {P : Program} {N L : Nat} {H : AHeap} {Q : Bool → Value → AHeap → Prop}
theorem mu_le {ld x m : Int} (hm : 0 ≤ m ∧ m ≤ 240) : (fwd ld).mu x ≤ m ↔ x ≠ -1 ∧ x ≤ m := by
 unfold fwd
 simp only
 split <;> omega
section
variable {l : List Str} {C w ld : Int} {a : Option Addr} {cap : Nat}
theorem Chu.frx {k k' : Nat} {a a' : Option Addr} {bs bs' : List Int} {cap cap' : Nat} {H H' : AHeap} (h : Chu H k a bs cap) (h' : Chu H k' a' bs' cap') (hne : k ≠ k') (f : FrX k' H H') : Chu H' k a bs cap where
 lt := Nat.lt_of_lt_of_le h.lt f.size
 blk := by rw [f.same k h.lt hne]; exact h.blk
 row hn := by
  obtain ⟨b, o, c, h1, h2, h3, h4⟩ := h.row hn
  obtain ⟨u, s, h5, _⟩ := h'.blk
  exact ⟨b, o, c, h1, Nat.lt_of_lt_of_le h2 f.size, by rw [f.same b h2 (fun e => by subst e; rw [h5] at h3; cases h3)]; exact h3, h4⟩
 byte := h.byte
 len := h.len
structure LQ (n p q : Nat) (H : AHeap) (C w ld : Int) (l : List Str) (i8 i9 : Nat) (a' : Option Addr) (cap' : Nat) (e : VT) (H' : AHeap) : Prop where
 g8 : gt n e p = .pointer (some ⟨i8, 0, none⟩)
 g9 : gt n e q = .pointer (some ⟨i9, 0, none⟩)
 fr : Fr H H'
 l8 : i8 < H'.size
 l9 : i9 < H'.size
 b8 : H'.get i8 = .rw [.int .i64 C, .slice a' l.length cap'] 24 false []
 b9 : H'.get i9 = .rw [.int .i64 w, .int .i64 ld] 26 false []
 sl : Sl H' a' l
theorem LQ.next {n p q i8 i9 : Nat} {a' : Option Addr} {cap' : Nat} {e e' : VT} {H' H'' : AHeap} (I : LQ n p q H C w ld l i8 i9 a' cap' e H') (f : Fr H' H'') (h : Keep n [p, q] e e') : LQ n p q H C w ld l i8 i9 a' cap' e' H'' where
 g8 := (h p (by simp)).trans I.g8
 g9 := (h q (by simp)).trans I.g9
 fr := I.fr.trans f
 l8 := Nat.lt_of_lt_of_le I.l8 f.size
 l9 := Nat.lt_of_lt_of_le I.l9 f.size
 b8 := (f.same _ I.l8).trans I.b8
 b9 := (f.same _ I.l9).trans I.b9
 sl := I.sl.fr f
theorem LQ.frx {n p q k i8 i9 : Nat} {a' ab : Option Addr} {bs : List Int} {capb cap' : Nat} {e e' : VT} {H' H'' : AHeap} (I : LQ n p q H C w ld l i8 i9 a' cap' e H') (h8 : i8 ≠ k) (h9 : i9 ≠ k) (hk : H.size ≤ k) (hc : Chu H' k ab bs capb) (f : FrX k H' H'') (h : Keep n [p, q] e e') : LQ n p q H C w ld l i8 i9 a' cap' e' H'' where
 g8 := (h p (by simp)).trans I.g8
 g9 := (h q (by simp)).trans I.g9
 fr := f.above I.fr hk
 l8 := Nat.lt_of_lt_of_le I.l8 f.size
 l9 := Nat.lt_of_lt_of_le I.l9 f.size
 b8 := (f.same _ I.l8 h8).trans I.b8
 b9 := (f.same _ I.l9 h9).trans I.b9
 sl := I.sl.frx hc f
end
end Go.Am
namespace Go.Am
open Go.Proofs
variable {T : Tab} {P : Program} {N L : Nat} {H : AHeap} {Q : Bool → Value → AHeap → Prop}
section
variable {ex : Exec} {t : Operand → Option Value} {ty : TypeId} {x : Operand} {lo hi mx : Option Operand}
theorem A_slice_of {v : Value} (h : aSlice T t H ty x lo hi mx = some (v, H, H.size)) (hL : L ≤ H.size) (hq : Q true v H) : A T P ex t H L (.slice ty x lo hi mx) Q := by
 unfold A
 show (match still (aSlice T t H ty x lo hi mx) with
  | some (b, v, H', m) => L ≤ m ∧ Q b v H'
  | none => False)
 rw [h]
 exact ⟨hL, hq⟩
theorem esS_split {z : Nat} (hz : esS T ty = some z) : ∃ e i, T.und ty = some (.slice e) ∧ T.inf e = some i ∧ i.size = z := by
 unfold esS at hz
 cases hu : T.und ty with
 | none => rw [hu] at hz; cases hz
 | some d =>
  rw [hu] at hz
  cases d with
  | slice e =>
   unfold inS at hz
   simp only at hz
   cases hi : T.inf e with
   | none => rw [hi] at hz; cases hz
   | some i => rw [hi] at hz; cases hz; exact ⟨e, i, rfl, hi, rfl⟩
  | _ => cases hz
theorem blt_open {z : Nat} : Nat.blt (OPEN + z) OPEN = false := by
 cases h : Nat.blt (OPEN + z) OPEN with
 | false => rfl
 | true => have := lt_of_blt h; omega
theorem aSlice_open {z b o n l h m kn : Nat} {vl vh : Option Int} (hz : esS T ty = some z) (hx : t x = some (.slice (some ⟨b, o, none⟩) n (OPEN + z))) (hl : abound t lo = some vl) (hh : abound t hi = some vh) (hkn : known H ⟨b, o, none⟩ n z (OPEN + z) = kn) (hab : abounds n kn vl vh none = some (l, h, m)) (hlt : l < kn ∨ l = 0) :
  aSlice T t H ty x lo hi none = some (.slice (some ⟨b, o + l * z, none⟩) (h - l) (OPEN + z), H, H.size) := by
 obtain ⟨e, i, hu, hi', rfl⟩ := esS_split hz
 have hc : (Nat.blt l kn || Nat.beq l 0) = true := by
  rcases hlt with h | rfl
  ·rw [blt_true h]; rfl
  ·simp
 unfold aSlice
 simp only [hx,hu,hl,hh,show abound t none = some none from rfl,hi',blt_open,cond_false,hkn,hab,Option.isSome_none,hc,Bool.true_and,show Nat.beq (OPEN + i.size) (OPEN + i.size) = true by simp,cond_true]
section
variable {y y1 y2 y3 : Operand} {z b o n kn : Nat}
theorem abound_int {k : IntKind} {i : Int} (h : t y = some (.int k i)) : abound t (some y) = some (some i) := by
 show (match t y with
  | some (.int _ n) => some (some n)
  | _ => none) = _
 rw [h]
theorem abs_of1 {j : Nat} (h2 : j ≤ kn) : abounds n kn none (some (j : Int)) none = some (0, j, kn) := by
 delta abounds
 simp [h2]
theorem A_sliceF {j : Nat} (hz : esS T ty = some z) (hx : t x = some (.slice (some ⟨b, o, none⟩) n (OPEN + z))) (h2 : t y = some (.int .i64 j)) (hkn : known H ⟨b, o, none⟩ n z (OPEN + z) = kn) (hjk : j ≤ kn)
  (hL : L ≤ H.size) (hq : Q true (.slice (some ⟨b, o, none⟩) j (OPEN + z)) H) : A T P ex t H L (.slice ty x none (some y) none) Q := by
 have h := aSlice_open (H := H) (lo := none) hz hx rfl (abound_int h2) hkn (abs_of1 hjk) (.inr rfl)
 rw [Nat.zero_mul, Nat.add_zero, Nat.sub_zero] at h
 exact A_slice_of h hL hq
end
def slFK (T : Tab) (ty : TypeId) (v u : Value) (H : AHeap) (L : Nat) (Q : Bool → Value → AHeap → Prop) (_ : Tag Q := .mk) : Prop := match still (aSlice T (fun o => match o with | .tmp 0 => some v | _ => some u) H ty (.tmp 0) none (some (.tmp 1)) none) with
 | some (b, v, H', m) => L ≤ m ∧ Q b v H'
 | none => False
theorem A_slF {y : Operand} : A T P ex t H L (.slice ty x none (some y) none) Q = optK (t x) fun v => optK (t y) fun u => slFK T ty v u H L Q := by
 unfold A
 show (match still (aSlice T t H ty x none (some y) none) with
  | some (b, v, H', m) => L ≤ m ∧ Q b v H'
  | none => False) = _
 cases hs : t x with
 | none =>
  have : aSlice T t H ty x none (some y) none = none := by
   unfold aSlice
   simp only [hs]
  rw [this]; rfl
 | some sv =>
  cases hx : t y with
  | none =>
   have : aSlice T t H ty x none (some y) none = none := by
    unfold aSlice
    simp only [hs,abound,hx]
    split <;> simp_all
   rw [this]; rfl
  | some xv =>
   have : aSlice T t H ty x none (some y) none = aSlice T (fun o => match o with | .tmp 0 => some sv | _ => some xv) H ty (.tmp 0) none (some (.tmp 1)) none := by
    unfold aSlice
    simp only [hs,abound,hx]
   rw [this]; rfl
theorem slFK_open {z b o n kn j : Nat} (hz : esS T ty = some z) (hkn : known H ⟨b, o, none⟩ n z (OPEN + z) = kn) (hjk : j ≤ kn) : slFK T ty (.slice (some ⟨b, o, none⟩) n (OPEN + z)) (.int .i64 j) H L Q = andK (L ≤ H.size) (Q true (.slice (some ⟨b, o, none⟩) j (OPEN + z)) H) := by
 have h := aSlice_open (T := T) (H := H) (t := fun o' => match o' with | .tmp 0 => some (.slice (some ⟨b, o, none⟩) n (OPEN + z)) | _ => some (.int .i64 j)) (x := .tmp 0) (lo := none) (hi := some (.tmp 1)) hz rfl rfl (abound_int (k := .i64) rfl) hkn (abs_of1 hjk) (.inr rfl)
 rw [Nat.zero_mul, Nat.add_zero, Nat.sub_zero] at h
 unfold slFK
 rw [h]; rfl
theorem tm_slF {ty : TypeId} {x y : Operand} : tmpsOf (Op.slice ty x none (some y) none).operands.toList = tmpsOf [x, y] := nr rfl
end
end Go.Am
