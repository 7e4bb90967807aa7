import Derived.Test.YtaieoelbpnjoiaaT27
import Derived.Test.YtaieoelbpnjoiaaT32
set_option linter.unusedSimpArgs false
set_option linter.unusedVariables false
set_option linter.defProp false
namespace Go.Am
open Go.Proofs
theorem st_alS_26 : alS tabA 26 = some [(.int IntKind.i64 0), (.int IntKind.i64 0)] := by kernel_rfl
theorem st_apS_22 : apS tabA 22 = some (45, 9, 72) := by kernel_rfl
theorem st_bdS_140 : bdS tabA 140 = some ([(.slice none 0 0), (.int IntKind.i64 0), (.int IntKind.u64 0)], [(0, 1), (1, 1), (2, 1)]) := by kernel_rfl
theorem st_bdS_26 : bdS tabA 26 = some ([(.int IntKind.i64 0), (.int IntKind.i64 0)], [(0, 1), (1, 1)]) := by kernel_rfl
theorem st_bdS_45 : bdS tabA 45 = some ([(.int IntKind.i64 0), (.int IntKind.i64 0), (.int IntKind.i64 0), (.int IntKind.i64 0), (.int IntKind.i64 0), (.int IntKind.i64 0), (.bool false), (.int IntKind.i64 0), (.int IntKind.i64 0)], [(0, 1), (1, 1), (2, 1), (3, 1), (4, 1), (5, 1), (6, 1), (7, 2)]) := by kernel_rfl
theorem st_bdS_50 : bdS tabA 50 = some ([(.int IntKind.i64 0), (.int IntKind.i64 0)], [(0, 1), (1, 1)]) := by kernel_rfl
theorem st_brS_22_1 : brS tabA 22 1 = some (9, 45, [(.int IntKind.i64 0), (.int IntKind.i64 0), (.int IntKind.i64 0), (.int IntKind.i64 0), (.int IntKind.i64 0), (.int IntKind.i64 0), (.bool false), (.int IntKind.i64 0), (.int IntKind.i64 0)]) := by kernel_rfl
theorem st_esS_81 : esS tabA 81 = some 1 := by kernel_rfl
theorem st_faS_140_0 : faS tabA 140 0 = some 0 := by kernel_rfl
theorem st_faS_140_1 : faS tabA 140 1 = some 1 := by kernel_rfl
theorem st_faS_140_2 : faS tabA 140 2 = some 2 := by kernel_rfl
theorem st_inS_138 : inS tabA 138 = some 1 := by kernel_rfl
theorem st_inS_22 : inS tabA 22 = some 1 := by kernel_rfl
theorem st_inS_26 : inS tabA 26 = some 2 := by kernel_rfl
theorem st_ldS_138 : ldS tabA 138 = some 0 := by kernel_rfl
theorem st_ldS_5 : ldS tabA 5 = some 0 := by kernel_rfl
theorem st_ldS_81 : ldS tabA 81 = some 0 := by kernel_rfl
theorem fn_48 : tabA.fn 48 = some Try.f48 := by kernel_rfl
theorem fn_49 : tabA.fn 49 = some Try.f49 := by kernel_rfl
theorem fn_50 : tabA.fn 50 = some Try.f50 := by kernel_rfl
theorem fn_51 : tabA.fn 51 = some Try.f51 := by kernel_rfl
theorem fn_59 : tabA.fn 59 = some Try.f59 := by kernel_rfl
theorem fn_96 : tabA.fn 96 = some Try.f96 := by kernel_rfl
theorem fn_97 : tabA.fn 97 = some Try.f97 := by kernel_rfl
def ysv := (And.intro (And.intro (And.intro (And.intro @st_alS_26 @st_apS_22) (And.intro @st_bdS_140 @st_bdS_26)) (And.intro (And.intro @st_bdS_45 @st_bdS_50) (And.intro @st_brS_22_1 @st_esS_81))) (And.intro (And.intro (And.intro @st_faS_140_0 @st_faS_140_1) (And.intro @st_faS_140_2 @st_inS_138)) (And.intro (And.intro @st_inS_22 @st_inS_26) (And.intro @st_ldS_138 (And.intro @st_ldS_5 @st_ldS_81)))))
end Go.Am
set_option linter.defProp false
namespace Go.Am
open Go.Proofs
theorem st_alS_151 : alS tabA 151 = some [(.bool false), (.bool false), (.bool false), (.bool false), (.bool false), (.bool false), (.bool false), (.bool false)] := by kernel_rfl
theorem st_alS_152 : alS tabA 152 = some [.nilFunc] := by kernel_rfl
theorem st_alS_52 : alS tabA 52 = some [(.slice none 0 0)] := by kernel_rfl
theorem st_apS_65 : apS tabA 65 = some (28, 2, 16) := by kernel_rfl
theorem st_arS_151 : arS tabA 151 = some (8, 1) := by kernel_rfl
theorem st_brS_65_1 : brS tabA 65 1 = some (2, 28, [(.int IntKind.i64 0), (.bool false)]) := by kernel_rfl
theorem st_esS_65 : esS tabA 65 = some 2 := by kernel_rfl
theorem st_inS_152 : inS tabA 152 = some 1 := by kernel_rfl
theorem st_inS_52 : inS tabA 52 = some 1 := by kernel_rfl
theorem st_ldS_152 : ldS tabA 152 = some 0 := by kernel_rfl
theorem st_ldS_52 : ldS tabA 52 = some 0 := by kernel_rfl
theorem fn_57 : tabA.fn 57 = some Try.f57 := by kernel_rfl
theorem fn_58 : tabA.fn 58 = some Try.f58 := by kernel_rfl
def ysw := (And.intro (And.intro (And.intro @st_alS_151 @st_alS_152) (And.intro @st_alS_52 (And.intro @st_apS_65 @st_arS_151))) (And.intro (And.intro @st_brS_65_1 (And.intro @st_esS_65 @st_inS_152)) (And.intro @st_inS_52 (And.intro @st_ldS_152 @st_ldS_52))))
end Go.Am
namespace Go.Am
open Go.Proofs
variable {T : Tab} {P : Program} {N L : Nat} {H : AHeap}
section
variable {ex : Exec} {t : Operand → Option Value} {Q : Bool → Value → AHeap → Prop}
def nilQ (v : Value) (L : Nat) (H : AHeap) (Q : Bool → Value → AHeap → Prop) (_ : Tag Q := .mk) : Prop := match v with
 | .pointer (some a) => L ≤ H.size ∧ Q true (.pointer (some a)) H
 | .func (.func f) first captured => L ≤ H.size ∧ Q true (.func (.func f) first captured) H
 | _ => False
theorem nilQ_ptr {a : Addr} : nilQ (.pointer (some a)) L H Q = andK (L ≤ H.size) (Q true (.pointer (some a)) H) := nr rfl
theorem A_nilCheck {x : Operand} : A T P ex t H L (.nilCheck x) Q = optK (t x) fun v => nilQ v L H Q := by
 unfold A
 show (match still (aNilCheck t H x) with
  | some (b, v, H', m) => L ≤ m ∧ Q b v H'
  | none => False) = _
 unfold aNilCheck
 cases t x with
 | none => rfl
 | some v =>
  cases v with
  | pointer a => cases a <;> rfl
  | func f a b => cases f <;> rfl
  | _ => rfl
def cvS (T : Tab) (src dst : TypeId) : Option IntKind := match T.und src, T.und dst with
 | some _, some (.int k) => some k
 | _, _ => none
def cvV (T : Tab) (P : Program) (H : AHeap) (src dst : TypeId) (v : Value) : Option Value := match aConv T P (fun _ => some v) H src dst (.tmp 0) with
 | some (v, _, _) => some v
 | none => none
theorem cvV_int {src dst : TypeId} {k k' : IntKind} {n : Int} (hs : cvS T src dst = some k) : cvV T P H src dst (.int k' n) = some (.int k (k.wrap n)) := by
 unfold cvS at hs
 unfold cvV aConv
 rw [show allGr (fun _ => some (Value.int k' n)) [.tmp 0] = true by simp [allGr, gr, ground], show aρ (fun _ => some (Value.int k' n)) (.tmp 0) = .int k' n by simp [aρ]]
 simp only [cond_true]
 cases hu : T.und src with
 | none => rw [hu] at hs; cases hs
 | some d =>
  rw [hu] at hs
  cases hv : T.und dst with
  | none => rw [hv] at hs; cases hs
  | some e =>
   rw [hv] at hs
   cases e with
   | int q => cases hs; rfl
   | _ => cases hs
theorem aPureOf_shape {s : Sem Value} {v : Value} {H' : AHeap} {m : Nat} (h : aPureOf P H s = some (v, H', m)) : H' = H ∧ m = H.size := by
 unfold aPureOf at h
 split at h
 ·rename_i u hu
  cases hg : gr u
  ·rw [hg] at h; cases h
  ·rw [hg] at h; cases h; exact ⟨rfl, rfl⟩
 ·cases h
theorem aConv_shape {src dst : TypeId} {x : Operand} {v : Value} {H' : AHeap} {m : Nat} (h : aConv T P t H src dst x = some (v, H', m)) : H' = H ∧ m = H.size := by
 unfold aConv at h
 cases hb : allGr t [x]
 ·rw [hb] at h; cases h
 ·rw [hb] at h
  simp only [cond_true] at h
  split at h
  ·cases h; exact ⟨rfl, rfl⟩
  ·exact aPureOf_shape h
theorem A_conv {src dst : TypeId} {x : Operand} : A T P ex t H L (.convert src dst x) Q = optK (t x) fun v => optK (cvV T P H src dst v) fun v => andK (L ≤ H.size) (Q true v H) := by
 unfold A
 show (match still (aConv T P t H src dst x) with
  | some (b, v, H', m) => L ≤ m ∧ Q b v H'
  | none => False) = _
 cases hx : t x with
 | none =>
  unfold aConv
  rw [show allGr t [x] = false by simp [allGr, hx]]; rfl
 | some v =>
  have e : aConv T P t H src dst x = aConv T P (fun _ => some v) H src dst (.tmp 0) := by
   unfold aConv
   rw [show allGr t [x] = allGr (fun _ => some v) [.tmp 0] by simp [allGr, hx], show aρ t x = aρ (fun _ => some v) (.tmp 0) by simp [aρ, hx]]
  rw [e]
  simp only [optK,cvV]
  cases h : aConv T P (fun _ => some v) H src dst (.tmp 0) with
  | none => rfl
  | some r =>
   obtain ⟨u, H', m⟩ := r
   obtain ⟨rfl, rfl⟩ := aConv_shape h
   rfl
def mmV (P : Program) (H : AHeap) (mx : Bool) (a b : Value) : Option Value := match aMinMax P (fun x => match x with
  | .tmp 0 => some a
  | _ => some b) H mx [.tmp 0, .tmp 1].toArray with
 | some (v, _, _) => some v
 | none => none
theorem mm_min {a b : Int} : mmV P H false (.int .i64 a) (.int .i64 b) = some (.int .i64 (if b < a then b else a)) := nr rfl
theorem mm_max {a b : Int} : mmV P H true (.int .i64 a) (.int .i64 b) = some (.int .i64 (if b > a then b else a)) := nr rfl
theorem aMinMax_gen {mx : Bool} {x y : Operand} : (match still (aMinMax P t H mx [x, y].toArray) with
  | some (b, v, H', m) => L ≤ m ∧ Q b v H'
  | none => False) = optK (t x) fun a => optK (t y) fun b => optK (mmV P H mx a b) fun v => andK (L ≤ H.size) (Q true v H) := by
 cases hx : t x with
 | none =>
  unfold aMinMax
  rw [show allGr t [x, y].toArray.toList = false by simp [allGr, hx]]; rfl
 | some a =>
  cases hy : t y with
  | none =>
   unfold aMinMax
   rw [show allGr t [x, y].toArray.toList = false by simp [allGr, hx, hy]]; rfl
  | some b =>
   have e : aMinMax P t H mx [x, y].toArray = aMinMax P (fun x => match x with
     | .tmp 0 => some a
     | _ => some b) H mx [.tmp 0, .tmp 1].toArray := by
    unfold aMinMax
    simp [allGr, aρ, hx, hy]
   rw [e]
   simp only [optK,mmV]
   cases h : aMinMax P (fun x => match x with
     | .tmp 0 => some a
     | _ => some b) H mx [.tmp 0, .tmp 1].toArray with
   | none => rfl
   | some r =>
    obtain ⟨u, H', m⟩ := r
    have : H' = H ∧ m = H.size := by
     unfold aMinMax at h
     cases hb : allGr (fun x => match x with
      | .tmp 0 => some a
      | _ => some b) [.tmp 0, .tmp 1].toArray.toList
     ·rw [hb] at h; cases h
     ·rw [hb] at h
      exact aPureOf_shape h
    obtain ⟨rfl, rfl⟩ := this
    rfl
theorem A_min {tys : List TypeId} {x y : Operand} : A T P ex t H L (.call ⟨.builtin .min, [x, y].toArray, tys.toArray⟩) Q = optK (t x) fun a => optK (t y) fun b => optK (mmV P H false a b) fun v => andK (L ≤ H.size) (Q true v H) := by
 unfold A
 exact aMinMax_gen (mx := false)
theorem A_max {tys : List TypeId} {x y : Operand} : A T P ex t H L (.call ⟨.builtin .max, [x, y].toArray, tys.toArray⟩) Q = optK (t x) fun a => optK (t y) fun b => optK (mmV P H true a b) fun v => andK (L ≤ H.size) (Q true v H) := by
 unfold A
 exact aMinMax_gen (mx := true)
end
theorem planB_of {d : List (Option Nat)} {ops : List Oper} {env : Nat → Value} {H : AHeap} {r : Option (List (Nat × ABlk))} (hd : ops.map (·.dst) = d) (h1 : d ≠ [some 22, some 23, some 24, some 25, some 9, some 10, none, none]) (h2 : d ≠ [some 87, some 88, some 89, some 90, some 91, some 92, some 93, some 94, some 95, some 11]) (hr : planB d env = r) (h9 : d ≠ [some 62, some 63, some 64, some 65, some 66, some 67, some 68, some 14, none] := by decide) : tabA.plan ops env H = r := by
 show planA ops env H = _
 unfold planA
 rw [hd, if_neg h1, if_neg h2, if_neg h9, hr]
theorem st_cvS_5_3 : cvS tabA 5 3 = some .i64 := by kernel_rfl
theorem st_cvS_5_138 : cvS tabA 5 138 = some .u64 := by kernel_rfl
theorem st_cvS_3_138 : cvS tabA 3 138 = some .u64 := by kernel_rfl
theorem st_cvS_138_3 : cvS tabA 138 3 = some .i64 := by kernel_rfl
theorem cv_5_3 {k' : IntKind} {n : Int} : cvV tabA P H 5 3 (.int k' n) = some (.int .i64 (w64 n)) := cvV_int st_cvS_5_3
theorem cv_5_138 {k' : IntKind} {n : Int} : cvV tabA P H 5 138 (.int k' n) = some (.int .u64 (IntKind.u64.wrap n)) := cvV_int st_cvS_5_138
theorem cv_3_138 {k' : IntKind} {n : Int} : cvV tabA P H 3 138 (.int k' n) = some (.int .u64 (IntKind.u64.wrap n)) := cvV_int st_cvS_3_138
theorem cv_138_3 {k' : IntKind} {n : Int} : cvV tabA P H 138 3 (.int k' n) = some (.int .i64 (w64 n)) := cvV_int st_cvS_138_3
def u64w (n : Int) : Int := IntKind.wrap .u64 n
section
variable {ty : TypeId} {x y : Operand} {a b : Int}
theorem u64_add : binV T P .add ty x y (.int .u64 a) (.int .u64 b) = some (.int .u64 (u64w (a + b))) := nr rfl
theorem u64_mul : binV T P .mul ty x y (.int .u64 a) (.int .u64 b) = some (.int .u64 (u64w (a * b))) := nr rfl
def xorU (a b : Int) : Int := u64w ((BitVec.ofInt 64 a ^^^ BitVec.ofInt 64 b).toNat : Nat)
theorem u64_xor : binV T P .xor ty x y (.int .u64 a) (.int .u64 b) = some (.int .u64 (xorU a b)) := nr rfl
theorem u64_shl6 : binV T P .shl ty x y (.int .u64 a) (.int .u64 6) = some (.int .u64 (u64w (a * 64))) := nr rfl
theorem u64_shr2 : binV T P .shr ty x y (.int .u64 a) (.int .u64 2) = some (.int .u64 (a.fdiv 4)) := nr rfl
theorem u64_shr20 : binV T P .shr ty x y (.int .u64 a) (.int .u64 20) = some (.int .u64 (a.fdiv 1048576)) := nr rfl
theorem rem_of {k : IntKind} (h : b ≠ 0) (hr : ∀ n, gr (Value.int k n) = true) : pureRun P (Op.intDiv .rem k a b) = some (.int k (a.tmod b)) := by
 unfold Op.intDiv
 rw [if_neg h]; rfl
theorem u64_rem (h : b ≠ 0) : binV T P .rem ty x y (.int .u64 a) (.int .u64 b) = some (.int .u64 (a.tmod b)) := by
 show (match (match pureRun P (Op.intDiv .rem .u64 a b) with
  | some v => bif gr v then some v else none
  | none => none) with
  | some v => some v
  | none => _) = _
 rw [rem_of h fun _ => rfl]; rfl
theorem i64_rem (h : b ≠ 0) : binV T P .rem ty x y (.int .i64 a) (.int .i64 b) = some (.int .i64 (a.tmod b)) := by
 show (match (match pureRun P (Op.intDiv .rem .i64 a b) with
  | some v => bif gr v then some v else none
  | none => none) with
  | some v => some v
  | none => _) = _
 rw [rem_of h fun _ => rfl]; rfl
end
theorem u64w_range (n : Int) : 0 ≤ u64w n ∧ u64w n < 18446744073709551616 := by
 have : u64w n = n % 18446744073709551616 := rfl
 omega
theorem u64w_of {n : Int} (h : 0 ≤ n ∧ n < 18446744073709551616) : u64w n = n := by
 have : u64w n = n % 18446744073709551616 := rfl
 omega
end Go.Am
namespace Go.Am
open Go.Proofs
variable {T : Tab} {P : Program} {N L : Nat} {H : AHeap} {Q : Bool → Value → AHeap → Prop}
structure FrX (k : Nat) (H H' : AHeap) : Prop where
 size : H.size ≤ H'.size
 same : ∀ j, j < H.size → j ≠ k → H'.get j = H.get j
theorem FrX.refl (k : Nat) (H : AHeap) : FrX k H H := ⟨Nat.le_refl _, fun _ _ _ => rfl⟩
theorem FrX.trans {k : Nat} {H H₁ H₂ : AHeap} (a : FrX k H H₁) (b : FrX k H₁ H₂) : FrX k H H₂ := ⟨Nat.le_trans a.size b.size, fun j h1 h2 => (b.same j (Nat.lt_of_lt_of_le h1 a.size) h2).trans (a.same j h1 h2)⟩
theorem FrX.of {k : Nat} {H H' : AHeap} (f : Fr H H') : FrX k H H' := ⟨f.size, fun j h _ => f.same j h⟩
theorem FrX.put {k : Nat} {H H' : AHeap} (f : FrX k H H') (b : ABlk) : FrX k H (H'.put k b) := ⟨by rw [zdf]; exact f.size, fun j h1 h2 => by rw [zdd h2]; exact f.same j h1 h2⟩
theorem FrX.above {k : Nat} {H H' : AHeap} (f : FrX k H H') {H₀ : AHeap} (f0 : Fr H₀ H) (h : H₀.size ≤ k) : Fr H₀ H' := ⟨Nat.le_trans f0.size f.size, fun j hj => (f.same j (Nat.lt_of_lt_of_le hj f0.size) (by omega)).trans (f0.same j hj)⟩
structure Chu (H : AHeap) (k : Nat) (a : Option Addr) (bs : List Int) (cap : Nat) : Prop where
 lt : k < H.size
 blk : ∃ u s : Int, H.get k = .rw [.slice a bs.length cap, .int .i64 u, .int .u64 s] 140 false [] ∧ 0 ≤ u ∧ u ≤ bs.length ∧ 0 ≤ s ∧ s < 18446744073709551616
 row : bs ≠ [] → ∃ b o c, a = some ⟨b, o, none⟩ ∧ b < H.size ∧ H.get b = .ro c ∧ ∀ i x, bs[i]? = some x → c[o + i]? = some (.int .u8 x)
 byte : ∀ x ∈ bs, 0 ≤ x ∧ x < 256
 len : bs.length < 9223372036854775808
section
variable {k cap : Nat} {a : Option Addr} {bs : List Int}
theorem Chu.fr {H' : AHeap} (h : Chu H k a bs cap) (f : Fr H H') : Chu H' k a bs cap where
 lt := Nat.lt_of_lt_of_le h.lt f.size
 blk := by rw [f.same k h.lt]; exact h.blk
 row hne := by
  obtain ⟨b, o, c, h1, h2, h3, h4⟩ := h.row hne
  exact ⟨b, o, c, h1, Nat.lt_of_lt_of_le h2 f.size, by rw [f.same b h2]; exact h3, h4⟩
 byte := h.byte
 len := h.len
theorem Chu.put (h : Chu H k a bs cap) {u s : Int} (hu : 0 ≤ u ∧ u ≤ bs.length) (hs : 0 ≤ s ∧ s < 18446744073709551616) : Chu (H.put k (.rw [.slice a bs.length cap, .int .i64 u, .int .u64 s] 140 false [])) k a bs cap where
 lt := by rw [zdf]; exact h.lt
 blk := ⟨u, s, zdc h.lt, hu.1, hu.2, hs⟩
 row hne := by
  obtain ⟨b, o, c, h1, h2, h3, h4⟩ := h.row hne
  obtain ⟨u, s, h5, _⟩ := h.blk
  refine ⟨b, o, c, h1, by rw [zdf]; exact h2, ?_, h4⟩
  rw [zdd (fun e => by subst e; rw [h5] at h3; cases h3)]
  exact h3
 byte := h.byte
 len := h.len
theorem Chu.other {j : Nat} {b' : ABlk} (h : Chu H k a bs cap) (hj : j ≠ k) (hr : ∀ c, H.get j ≠ .ro c) : Chu (H.put j b') k a bs cap where
 lt := by rw [zdf]; exact h.lt
 blk := by rw [zdd (Ne.symm hj)]; exact h.blk
 row hne := by
  obtain ⟨b, o, c, h1, h2, h3, h4⟩ := h.row hne
  refine ⟨b, o, c, h1, by rw [zdf]; exact h2, ?_, h4⟩
  rw [zdd (fun e => by subst e; exact hr c h3)]
  exact h3
 byte := h.byte
 len := h.len
theorem resK_elim {q : Res} {Q : Bool → Value → AHeap → Prop} (h : resK q L Q) : ∃ f v H' m, q = some (f, v, H', m) ∧ L ≤ m ∧ Q f v H' := by
 unfold resK at h
 cases q with
 | none => exact h.elim
 | some p =>
  obtain ⟨f, v, H', m⟩ := p
  exact ⟨f, v, H', m, rfl, h⟩
theorem fdiv_range {s d : Int} (hs : 0 ≤ s ∧ s < 18446744073709551616) (hd : 1 ≤ d) : 0 ≤ s.fdiv d ∧ s.fdiv d < 18446744073709551616 := by
 rw [Int.fdiv_eq_ediv_of_nonneg _ (by omega)]
 exact ⟨Int.ediv_nonneg hs.1 (by omega), Int.lt_of_le_of_lt (Int.ediv_le_self _ hs.1) hs.2⟩
set_option maxHeartbeats 1000000 in
theorem c97 {x : Int} (h : Chu H k a bs cap) (hL : L ≤ k) {M : Nat} (hM : 60 ≤ M) (hq : ∀ f H', (f = true → H' = H) → Chu H' k a bs cap → FrX k H H' → H'.size = H.size → Q f (.tuple ⟨[]⟩) H') :
  resK (acall tabA (aexec tabA Try.prog M) 97 [.pointer (some ⟨k, 0, none⟩), .int .u8 x] H) L Q := by
 obtain ⟨N, rfl⟩ : ∃ N, M = N + 60 := ⟨M - 60, by omega⟩
 have hlt := h.lt
 refine call_keep tabA_fr (k := 35) (rs := []) (R := fun v H' => v = .tuple ⟨[]⟩ ∧ Chu H' k a bs cap ∧ FrX k H H' ∧ H'.size = H.size) rfl fn_97 rfl rfl rfl (by omega) ?_ (by rintro v H' ⟨rfl, h1, h2, h3⟩; exact hq _ _ (fun h => by cases h) h1 h2 h3) (by rintro v H' ⟨rfl, h1, h2, h3⟩ _ _; exact hq _ _ (fun _ => rfl) h (FrX.refl _ _) rfl)
 obtain ⟨u, s, hb, hu0, hu1, hs0, hs1⟩ := h.blk
 simp (disch:=first|(simp only [yk,seval];done)|omega|(simp only [yz]<;>omega)|fail) only [↓yp,yq0,yq1,yq2,yq3,yq4,yl,ys0,ys1,seval,zed,zee,zfr,zhw,ysu,yrg,ysv]
 refine W_drawR (pl := []) [22] [(3, 1), (10, 1), (16, 1)] (planB_of rfl (by decide) (by decide) rfl) (by kernel_rfl) (by kernel_rfl) (by kernel_rfl) (by first|omega|(simp only [yz]<;>omega)) ?_
 simp (disch:=first|(simp only [yk,seval];done)|omega|(simp only [yz]<;>omega)|fail) only [↓yp,yq0,yq1,yq2,yq3,yq4,yl,ys0,ys1,seval,zed,zee,zfr,zhw,ysu,yrg,ysv,A_nilCheck,nilQ_ptr,A_conv,cv_5_138,hb,u64_add,u64_mul,u64_xor,u64_shl6,u64_shr2]
 simp (disch:=first|(simp only [yk,seval];done)|omega|(simp only [yz]<;>omega)|fail) only [resV_none,zay,true_and]
 refine ⟨(h.put ⟨hu0, hu1⟩ (u64w_range _)).put ⟨hu0, hu1⟩ (u64w_range _), (FrX.put (FrX.put (FrX.refl _ _) _) _), ?_⟩
 rw [zdf, zdf]
def Pulled (n v : Int) : Prop := 0 ≤ v ∧ (v < n ∨ v = 0)
set_option maxHeartbeats 1000000 in
theorem c51 {n : Int} (h : Chu H k a bs cap) (hL : L ≤ k) (hn : n ≤ 256) {M : Nat} (hM : 200 ≤ M) (hq : ∀ f v H', (f = true → H' = H) → Pulled n v → Chu H' k a bs cap → FrX k H H' → H'.size = H.size → Q f (.int .i64 v) H') :
  resK (acall tabA (aexec tabA Try.prog M) 51 [.pointer (some ⟨k, 0, none⟩), .int .i64 n] H) L Q := by
 obtain ⟨N, rfl⟩ : ∃ N, M = N + 200 := ⟨M - 200, by omega⟩
 have hlt := h.lt
 refine call_keep tabA_fr (k := 138) (rs := [.tmp 4]) (R := fun v H' => ∃ x, v = .int .i64 x ∧ Pulled n x ∧ Chu H' k a bs cap ∧ FrX k H H' ∧ H'.size = H.size) rfl fn_51 rfl rfl rfl (by omega) ?_ (by rintro v H' ⟨x, rfl, h0, h1, h2, h3⟩; exact hq _ _ _ (fun h => by cases h) h0 h1 h2 h3) (by rintro v H' ⟨x, rfl, h0, h1, h2, h3⟩ _ _; exact hq _ _ _ (fun _ => rfl) h0 h (FrX.refl _ _) rfl)
 obtain ⟨u, s, hb, hu0, hu1, hs0, hs1⟩ := h.blk
 have hlen := h.len
 cases hA : decide (n < 2)
 rotate_left
 ·simp (disch:=first|(simp only [yk,seval];done)|omega|(simp only [yz]<;>omega)|fail) only [↓yp,yq0,yq1,yq2,yq3,yq4,yl,ys0,ys1,seval,zed,zee,zfr,zhw,ysu,yrg,ysv,A_nilCheck,nilQ_ptr,hb,lenV_slice st_esS_81,hA]
  exact ⟨0, rfl, ⟨by omega, .inr rfl⟩, h, FrX.refl _ _⟩
 cases hB : decide ((bs.length : Int) = 0)
 rotate_left
 ·simp (disch:=first|(simp only [yk,seval];done)|omega|(simp only [yz]<;>omega)|fail) only [↓yp,yq0,yq1,yq2,yq3,yq4,yl,ys0,ys1,seval,zed,zee,zfr,zhw,ysu,yrg,ysv,A_nilCheck,nilQ_ptr,hb,lenV_slice st_esS_81,hA,hB]
  exact ⟨0, rfl, ⟨by omega, .inr rfl⟩, h, FrX.refl _ _⟩
 have hn2 : 2 ≤ n := by have := of_decide_eq_false hA; omega
 have hbl : 0 < bs.length := by have := of_decide_eq_false hB; omega
 obtain ⟨b, o, c, rfl, hb2, hc, hrow⟩ := h.row (List.length_pos_iff.1 hbl)
 have h256 : decide (256 < n) = false := by simp; omega
 have hrem := fun (x y : Operand) (a : Int) => i64_rem (T := tabA) (P := Try.prog) (ty := 3) (x := x) (y := y) (a := a) (b := n) (by omega)
 simp (disch:=first|(simp only [yk,seval];done)|omega|(simp only [yz]<;>omega)|fail) only [↓yp,yq0,yq1,yq2,yq3,yq4,yl,ys0,ys1,seval,zed,zee,zfr,zhw,ysu,yrg,ysv,A_nilCheck,nilQ_ptr,hb,lenV_slice st_esS_81,hA,hB]
 refine W_draw [] rfl (by kernel_rfl) (by kernel_rfl) (by first|omega|(simp only [yz]<;>omega)) ?_
 cases hC : decide (w64 (u + 1) < (bs.length : Int))
 all_goals
  simp (disch:=first|(simp only [yk,seval];done)|omega|(simp only [yz]<;>omega)|fail) only [↓yp,yq0,yq1,yq2,yq3,yq4,yl,ys0,ys1,seval,zed,zee,zfr,zhw,ysu,yrg,ysv,A_nilCheck,nilQ_ptr,hb,lenV_slice st_esS_81,hC,h256]
  refine W_draw [] rfl (by kernel_rfl) (by kernel_rfl) (by first|omega|(simp only [yz]<;>omega)) ?_
  cases hD : decide (u < (bs.length : Int))
  rotate_left
  ·have hu2 : u < (bs.length : Int) := of_decide_eq_true hD
   obtain ⟨i, rfl⟩ : ∃ i : Nat, u = i := ⟨u.toNat, by omega⟩
   obtain ⟨x, hx⟩ : ∃ x, bs[i]? = some x := ⟨bs[i]'(by omega), by simp [show i < bs.length by omega]⟩
   have w1 : w64 ((i : Int) + 1) = (i : Int) + 1 := w64_of (by omega)
   have hcx := hrow i x hx
   have hx256 := h.byte x (List.mem_of_getElem? hx)
   have w2 : w64 x = x := w64_of (by omega)
   simp (disch:=first|(simp only [yk,seval];done)|omega|(simp only [yz]<;>omega)|fail) only [↓yp,yq0,yq1,yq2,yq3,yq4,yl,ys0,ys1,seval,zed,zee,zfr,zhw,ysu,yrg,ysv,A_nilCheck,nilQ_ptr,hb,lenV_slice st_esS_81,hD]
   refine W_draw [] rfl (by kernel_rfl) (by kernel_rfl) (by first|omega|(simp only [yz]<;>omega)) ?_
   simp (disch:=first|(simp only [yk,seval];done)|omega|(simp only [yz]<;>omega)|fail) only [↓yp,yq0,yq1,yq2,yq3,yq4,yl,ys0,ys1,seval,zed,zee,zfr,zhw,ysu,yrg,ysv,A_nilCheck,nilQ_ptr,hb,A_indexSlice st_esS_81,hc,hcx,w1]
   refine c97 (h.put (u := (i : Int) + 1) ⟨by omega, by omega⟩ ⟨hs0, hs1⟩) hL (by omega) ?_
   intro f H' _ hc' hx' hs'
   rw [zdf] at hs'
   simp (disch:=first|(simp only [yk,seval];done)|omega|(simp only [yz]<;>omega)|fail) only [↓yp,yq0,yq1,yq2,yq3,yq4,yl,ys0,ys1,seval,zed,zee,zfr,zhw,ysu,yrg,ysv,A_conv,cv_5_3,w2,hrem]
   refine ⟨_, rfl, ⟨Int.tmod_nonneg _ hx256.1, .inl (Int.tmod_lt_of_pos _ (by omega))⟩, hc', (FrX.put (FrX.refl _ _) _).trans hx', hs'⟩
  ·have hu2 : u = (bs.length : Int) := by have := of_decide_eq_false hD; omega
   simp (disch:=first|(simp only [yk,seval];done)|omega|(simp only [yz]<;>omega)|fail) only [↓yp,yq0,yq1,yq2,yq3,yq4,yl,ys0,ys1,seval,zed,zee,zfr,zhw,ysu,yrg,ysv,A_nilCheck,nilQ_ptr,hb,lenV_slice st_esS_81,hD]
   have wl : u64w (bs.length : Int) = (bs.length : Int) := u64w_of (by omega)
   have hreml := fun (x y : Operand) (a : Int) => u64_rem (T := tabA) (P := Try.prog) (ty := 138) (x := x) (y := y) (a := a) (b := (bs.length : Int)) (by omega)
   obtain ⟨i, hi, hi2⟩ : ∃ i : Nat, s.tmod (bs.length : Int) = i ∧ i < bs.length := by
    have q1 := Int.tmod_nonneg (bs.length : Int) hs0
    have q2 := Int.tmod_lt_of_pos s (show (0 : Int) < (bs.length : Int) by omega)
    exact ⟨(s.tmod (bs.length : Int)).toNat, by omega, by omega⟩
   have w3 : w64 (i : Int) = (i : Int) := w64_of (by omega)
   obtain ⟨x, hx⟩ : ∃ x, bs[i]? = some x := ⟨bs[i]'(by omega), by simp [hi2]⟩
   have hcx := hrow i x hx
   obtain ⟨f, v, H', m, hres, hLm, rfl, hf, hc', hx', hs'⟩ := resK_elim (Q := fun f v H' => v = .tuple ⟨[]⟩ ∧ (f = true → H' = H) ∧ Chu H' k (some ⟨b, o, none⟩) bs cap ∧ FrX k H H' ∧ H'.size = H.size) (c97 (M := N + 194) (x := x) h hL (by omega) fun f H' h1 h2 h3 h4 => ⟨rfl, h1, h2, h3, h4⟩)
   obtain ⟨u2, s2, hb', hu2', hu3', hs2, hs3⟩ := hc'.blk
   have hc2 : H'.get b = .ro c := by
    rw [hx'.same b hb2 (fun e => by subst e; rw [hb] at hc; cases hc)]
    exact hc
   have hn64 : u64w n = n := u64w_of (by omega)
   have hremn := fun (x y : Operand) (a : Int) => u64_rem (T := tabA) (P := Try.prog) (ty := 138) (x := x) (y := y) (a := a) (b := n) (by omega)
   have hfd := fdiv_range (s := s2) (d := 1048576) ⟨hs2, hs3⟩ (by omega)
   have q1 := Int.tmod_nonneg n hfd.1
   have q2 := Int.tmod_lt_of_pos (s2.fdiv 1048576) (show (0 : Int) < n by omega)
   have w4 : w64 ((s2.fdiv 1048576).tmod n) = (s2.fdiv 1048576).tmod n := w64_of (by omega)
   cases f
   ·refine W_drawR (pl := []) [19] [(8, 1)] (planB_of rfl (by decide) (by decide) rfl) (by kernel_rfl) (by kernel_rfl) (by kernel_rfl) (by first|omega|(simp only [yz]<;>omega)) ?_
    simp (disch:=first|(simp only [yk,seval];done)|omega|(simp only [yz]<;>omega)|fail) only [↓yp,yq0,yq1,yq2,yq3,yq4,yl,ys0,ys1,seval,zed,zee,zfr,zhw,ysu,yrg,ysv,A_nilCheck,nilQ_ptr,hb,hb',lenV_slice st_esS_81,A_indexSlice st_esS_81,hc,hc2,hcx,A_conv,cv_3_138,cv_138_3,show ∀ z,IntKind.u64.wrap z = u64w z from fun _ => rfl,wl,hreml,hi,w3,hres]
    simp (disch:=first|(simp only [yk,seval];done)|omega|(simp only [yz]<;>omega)|fail) only [↓yp,yq0,yq1,yq2,yq3,yq4,yl,ys0,ys1,seval,zed,zee,zfr,zhw,ysu,yrg,ysv,A_nilCheck,nilQ_ptr,hb',A_conv,cv_3_138,cv_138_3,show ∀ z,IntKind.u64.wrap z = u64w z from fun _ => rfl,hn64,hremn,u64_shr20,w4]
    exact ⟨_, rfl, ⟨q1, .inl q2⟩, hc', hx', hs'⟩
   ·obtain rfl := hf rfl
    rw [hb] at hb'
    cases hb'
    refine W_drawR (pl := []) [] [] (planB_of rfl (by decide) (by decide) rfl) (by kernel_rfl) (by kernel_rfl) (by kernel_rfl) (by first|omega|(simp only [yz]<;>omega)) ?_
    simp (disch:=first|(simp only [yk,seval];done)|omega|(simp only [yz]<;>omega)|fail) only [↓yp,yq0,yq1,yq2,yq3,yq4,yl,ys0,ys1,seval,zed,zee,zfr,zhw,ysu,yrg,ysv,A_nilCheck,nilQ_ptr,hb,lenV_slice st_esS_81,A_indexSlice st_esS_81,hc,hcx,A_conv,cv_3_138,cv_138_3,show ∀ z,IntKind.u64.wrap z = u64w z from fun _ => rfl,wl,hreml,hi,w3,hres]
    simp (disch:=first|(simp only [yk,seval];done)|omega|(simp only [yz]<;>omega)|fail) only [↓yp,yq0,yq1,yq2,yq3,yq4,yl,ys0,ys1,seval,zed,zee,zfr,zhw,ysu,yrg,ysv,A_nilCheck,nilQ_ptr,hb,A_conv,cv_3_138,cv_138_3,show ∀ z,IntKind.u64.wrap z = u64w z from fun _ => rfl,hn64,hremn,u64_shr20,w4]
    exact ⟨_, rfl, ⟨q1, .inl q2⟩, h, FrX.refl _ _⟩
end
end Go.Am
namespace Go.Am
open Go.Proofs
variable {T : Tab} {P : Program} {N L : Nat} {H : AHeap} {Q : Bool → Value → AHeap → Prop}
section
variable {k cap : Nat} {a : Option Addr} {bs : List Int}
theorem c59 {lo hi : Int} (h : Chu H k a bs cap) (hL : L ≤ k) (hr : -1000 ≤ lo ∧ lo ≤ hi ∧ hi ≤ lo + 255 ∧ hi ≤ 1000) {M : Nat} (hM : 300 ≤ M) (hq : ∀ f v H', (f = true → H' = H) → lo ≤ v → v ≤ hi → Chu H' k a bs cap → FrX k H H' → H'.size = H.size → Q f (.int .i64 v) H') :
  resK (acall tabA (aexec tabA Try.prog M) 59 [.pointer (some ⟨k, 0, none⟩), .int .i64 lo, .int .i64 hi] H) L Q := by
 obtain ⟨N, rfl⟩ : ∃ N, M = N + 300 := ⟨M - 300, by omega⟩
 have hlt := h.lt
 refine call_keep tabA_fr (k := 15) (rs := [.tmp 6]) (R := fun v H' => ∃ x, v = .int .i64 x ∧ lo ≤ x ∧ x ≤ hi ∧ Chu H' k a bs cap ∧ FrX k H H' ∧ H'.size = H.size) rfl fn_59 rfl rfl rfl (by omega) ?_ (by rintro v H' ⟨x, rfl, h0, h0', h1, h2, h3⟩; exact hq _ _ _ (fun h => by cases h) h0 h0' h1 h2 h3) (by rintro v H' ⟨x, rfl, h0, h0', h1, h2, h3⟩ _ _; exact hq _ _ _ (fun _ => rfl) h0 h0' h (FrX.refl _ _) rfl)
 have w1 : w64 (hi - lo) = hi - lo := w64_of (by omega)
 have w2 : w64 (hi - lo + 1) = hi - lo + 1 := w64_of (by omega)
 simp (disch:=first|(simp only [yk,seval];done)|omega|(simp only [yz]<;>omega)|fail) only [↓yp,yq0,yq1,yq2,yq3,yq4,yl,ys0,ys1,seval,zed,zee,zfr,zhw,ysu,yrg,ysv,w1,w2]
 refine c51 h hL (by omega) (by omega) ?_
 rintro f v H' - ⟨h1, h2⟩ hc hx hs
 have w3 : w64 (lo + v) = lo + v := w64_of (by omega)
 simp (disch:=first|(simp only [yk,seval];done)|omega|(simp only [yz]<;>omega)|fail) only [↓yp,yq0,yq1,yq2,yq3,yq4,yl,ys0,ys1,seval,zed,zee,zfr,zhw,ysu,yrg,ysv,w3]
 exact ⟨_, rfl, by omega, by omega, hc, hx, hs⟩
theorem c96 {n : Int} (h : Chu H k a bs cap) (hL : L ≤ k) (hn : n ≤ 256) {M : Nat} (hM : 300 ≤ M) (hq : ∀ f (v : Bool) H', Chu H' k a bs cap → FrX k H H' → H'.size = H.size → Q f (.bool v) H') :
  resK (acall tabA (aexec tabA Try.prog M) 96 [.pointer (some ⟨k, 0, none⟩), .int .i64 n] H) L Q := by
 obtain ⟨N, rfl⟩ : ∃ N, M = N + 300 := ⟨M - 300, by omega⟩
 have hlt := h.lt
 refine call_keep tabA_fr (k := 9) (rs := [.tmp 4]) (R := fun v H' => ∃ x, v = .bool x ∧ Chu H' k a bs cap ∧ FrX k H H' ∧ H'.size = H.size) rfl fn_96 rfl rfl rfl (by omega) ?_ (by rintro v H' ⟨x, rfl, h1, h2, h3⟩; exact hq _ _ _ h1 h2 h3) (by rintro v H' ⟨x, rfl, h1, h2, h3⟩ _ _; exact hq _ _ _ h (FrX.refl _ _) rfl)
 simp (disch:=first|(simp only [yk,seval];done)|omega|(simp only [yz]<;>omega)|fail) only [↓yp,yq0,yq1,yq2,yq3,yq4,yl,ys0,ys1,seval,zed,zee,zfr,zhw,ysu,yrg,ysv]
 refine c51 h hL hn (by omega) ?_
 rintro f v H' - - hc hx hs
 simp (disch:=first|(simp only [yk,seval];done)|omega|(simp only [yz]<;>omega)|fail) only [↓yp,yq0,yq1,yq2,yq3,yq4,yl,ys0,ys1,seval,zed,zee,zfr,zhw,ysu,yrg,ysv]
 exact ⟨_, rfl, hc, hx, hs⟩
theorem c50 (h : Chu H k a bs cap) (hL : L ≤ k) {M : Nat} (hM : 400 ≤ M) (hq : ∀ f w ld H', 1 ≤ w → w ≤ 5 → 0 ≤ ld → ld ≤ 5 → Chu H' k a bs cap → FrX k H H' → Q f (.agg ⟨[.int .i64 w, .int .i64 ld]⟩) H') :
  resK (acall tabA (aexec tabA Try.prog M) 50 [.pointer (some ⟨k, 0, none⟩)] H) L Q := by
 obtain ⟨N, rfl⟩ : ∃ N, M = N + 400 := ⟨M - 400, by omega⟩
 have hlt := h.lt
 refine call_keep tabA_fr (k := 8) (rs := [.cell 2 26]) (R := fun v H' => ∃ w ld, v = .agg ⟨[.int .i64 w, .int .i64 ld]⟩ ∧ 1 ≤ w ∧ w ≤ 5 ∧ 0 ≤ ld ∧ ld ≤ 5 ∧ Chu H' k a bs cap ∧ FrX k H H') rfl fn_50 rfl rfl rfl (by omega) ?_ (by rintro v H' ⟨w, ld, rfl, h0, h1, h2, h3, h4, h5⟩; exact hq _ _ _ _ h0 h1 h2 h3 h4 h5) (by rintro v H' ⟨w, ld, rfl, h0, h1, h2, h3, h4, h5⟩ _ _; exact hq _ _ _ _ h0 h1 h2 h3 h (FrX.refl _ _))
 simp (disch:=first|(simp only [yk,seval];done)|omega|(simp only [yz]<;>omega)|fail) only [↓yp,yq0,yq1,yq2,yq3,yq4,yl,ys0,ys1,seval,zed,zee,zfr,zhw,ysu,yrg,ysv]
 refine c59 (h.fr (by repeat first|exact Fr.refl _|assumption|refine Fr.allocd ?_ _|refine Fr.put ?_ (by first|omega|(simp only [yz]<;>omega)) _)) hL (by omega) (by omega) ?_
 intro f w H1 _ h1 h2 hc1 hx1 hs1
 simp only [zde] at hs1
 have s1 := hx1.same H.size (by first|omega|(simp only [yz]<;>omega)) (by omega)
 simp (disch:=first|(simp only [yk,seval];done)|omega|(simp only [yz]<;>omega)|fail) only [↓yp,yq0,yq1,yq2,yq3,yq4,yl,ys0,ys1,seval,zed,zee,zfr,zhw,ysu,yrg,ysv]
 refine c51 hc1 hL (by omega) (by omega) ?_
 rintro f2 ld H2 - ⟨h3, h4⟩ hc2 hx2 hs2
 have s2 := (hx2.same H.size (by omega) (by omega)).trans s1
 rw [zda rfl] at s2
 simp (disch:=first|(simp only [yk,seval];done)|omega|(simp only [yz]<;>omega)|fail) only [↓yp,yq0,yq1,yq2,yq3,yq4,yl,ys0,ys1,seval,zed,zee,zfr,zhw,ysu,yrg,ysv,A_build st_bdS_26,s2]
 refine ⟨w, ld, rfl, h1, h2, h3, by omega, hc2.other (by omega) (fun c e => by rw [s2] at e; cases e), ?_⟩
 have hx : FrX k H H2 := ((FrX.of (Fr.alloc _ _)).trans hx1).trans hx2
 exact ⟨by rw [zdf]; exact hx.size, fun j hj hk => by rw [zdd (by omega)]; exact hx.same j hj hk⟩
end
end Go.Am
namespace Go.Am
open Go.Proofs
variable {T : Tab} {P : Program} {N L : Nat} {H : AHeap} {Q : Bool → Value → AHeap → Prop}
def OkS (C : Int) (s : Str) : Prop := bad1 C s = false ∧ bad2 s = false
structure MI (H H' : AHeap) (k : Nat) (a : Option Addr) (bs : List Int) (cap : Nat) (C m : Int) (i : Nat) (l : List Str) (ga : Option Addr) (gc : Nat) (e : VT) : Prop where
 g20 : gt 98 e 20 = .int .i64 (i : Nat)
 g19 : gt 98 e 19 = .int .i64 m
 g7 : gt 98 e 7 = .pointer (some ⟨H.size + 1, 0, none⟩)
 g6 : gt 98 e 6 = .pointer (some ⟨H.size, 0, none⟩)
 g0 : gt 98 e 0 = .pointer (some ⟨k, 0, none⟩)
 chu : Chu H' k a bs cap
 fr : FrX k H H'
 sz : H.size + 1 < H'.size
 b7 : H'.get (H.size + 1) = .rw [.int .i64 C, .slice ga i gc] 24 false []
 b6 : H'.get H.size = .rw [.int .i64 0, .slice none 0 0] 24 false []
 gw : Grow H' (H.size + 1) (.slice ga i gc) i (flat l) 45 9
 len : l.length = i
 ok : ∀ s ∈ l, OkS C s
section
variable {k cap gc i j : Nat} {a ga : Option Addr} {bs : List Int} {C m : Int} {l : List Str} {H' H'' : AHeap} {e e' : VT}
theorem Grow.ne {tb n z el j : Nat} {v : Value} {cs c : List Value} {ty : TypeId} {al : List Nat} (g : Grow H tb v n cs el z) (hj : H.get j = .rw c ty false al) (blk : ABlk) : Grow (H.put j blk) tb v n cs el z :=
 ⟨g.nil, fun h => by
  obtain ⟨b, al, h1, h2, h3, h4, h5⟩ := g.cons h
  refine ⟨b, al, h1, h2, by rw [zdf]; exact h3, ?_, h5⟩
  rw [zdd (fun e => by subst e; rw [hj] at h4; cases h4)]
  exact h4⟩
theorem Grow.frx {tb n z el : Nat} {v : Value} {cs c : List Value} {ty : TypeId} {al : List Nat} (g : Grow H tb v n cs el z) (hk : H.get k = .rw c ty false al) (f : FrX k H H') : Grow H' tb v n cs el z :=
 ⟨g.nil, fun h => by
  obtain ⟨b, al, h1, h2, h3, h4, h5⟩ := g.cons h
  refine ⟨b, al, h1, h2, Nat.lt_of_lt_of_le h3 f.size, ?_, h5⟩
  rw [f.same b h3 (fun e => by subst e; rw [hk] at h4; cases h4)]
  exact h4⟩
theorem MI.frx (I : MI H H' k a bs cap C m i l ga gc e) (hk : k < H.size) (hc : Chu H'' k a bs cap) (f : FrX k H' H'') (h : Keep 98 [0, 6, 7, 19, 20] e e') : MI H H'' k a bs cap C m i l ga gc e' where
 g20 := (h 20 (by decide)).trans I.g20
 g19 := (h 19 (by decide)).trans I.g19
 g7 := (h 7 (by decide)).trans I.g7
 g6 := (h 6 (by decide)).trans I.g6
 g0 := (h 0 (by decide)).trans I.g0
 chu := hc
 fr := I.fr.trans f
 sz := Nat.lt_of_lt_of_le I.sz f.size
 b7 := by rw [f.same _ I.sz (by omega)]; exact I.b7
 b6 := by rw [f.same _ (by have := I.sz; omega) (by omega)]; exact I.b6
 gw := by
  obtain ⟨u, s, hb, _⟩ := I.chu.blk
  exact I.gw.frx hb f
 len := I.len
 ok := I.ok
theorem MI.put {c : List Value} {ty : TypeId} {al : List Nat} (I : MI H H' k a bs cap C m i l ga gc e) (hk : k < H.size) (hj : H.size + 1 < j) (hb : H'.get j = .rw c ty false al) (blk : ABlk) : MI H (H'.put j blk) k a bs cap C m i l ga gc e where
 g20 := I.g20
 g19 := I.g19
 g7 := I.g7
 g6 := I.g6
 g0 := I.g0
 chu := I.chu.other (by omega) (fun c' e => by rw [hb] at e; cases e)
 fr := ⟨by rw [zdf]; exact I.fr.size, fun q h1 h2 => by rw [zdd (by omega)]; exact I.fr.same q h1 h2⟩
 sz := by rw [zdf]; exact I.sz
 b7 := by rw [zdd (by omega)]; exact I.b7
 b6 := by rw [zdd (by omega)]; exact I.b6
 gw := I.gw.ne hb blk
 len := I.len
 ok := I.ok
theorem MI.fr' (I : MI H H' k a bs cap C m i l ga gc e) (hk : k < H.size) (f : Fr H' H'') (h : Keep 98 [0, 6, 7, 19, 20] e e') : MI H H'' k a bs cap C m i l ga gc e' :=
 I.frx hk (I.chu.fr f) (FrX.of f) h
theorem other_corner {f d : Int} (hC : 2 ≤ C) (hf : 0 ≤ f ∧ f < C) (hd : 1 ≤ d ∧ d ≤ C - 1) : 0 ≤ (f + d).tmod C ∧ (f + d).tmod C < C ∧ (f + d).tmod C ≠ f := by
 have e : (f + d).tmod C = (f + d) % C := Int.tmod_eq_emod_of_nonneg (by omega)
 rw [e]
 by_cases h : f + d < C
 ·rw [Int.emod_eq_of_lt (by omega) h]; omega
 ·have : (f + d) % C = f + d - C := by
   rw [← Int.sub_emod_right, Int.emod_eq_of_lt (by omega) (by omega)]
  omega
theorem chk_of {l : List Str} (hC : 1 ≤ C ∧ C ≤ 8) (hl : l.length ≤ 16) (h : ∀ s ∈ l, OkS C s) : chk C l = 0 := by
 unfold chk
 rw [off_iff.2 hC, if_neg (by simp), if_neg (by omega), if_neg, if_neg]
 ·simp only [Bool.not_eq_true]
  rw [List.any_eq_false]
  intro s hs
  rw [(h s hs).2]; simp
 ·simp only [Bool.not_eq_true]
  rw [List.any_eq_false]
  intro s hs
  rw [(h s hs).1]; simp
end
end Go.Am
