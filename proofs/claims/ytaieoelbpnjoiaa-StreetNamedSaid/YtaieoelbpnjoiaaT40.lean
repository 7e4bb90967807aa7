import Derived.Test.YtaieoelbpnjoiaaT34
import Derived.Test.YtaieoelbpnjoiaaT27
import Derived.Test.YtaieoelbpnjoiaaT39
set_option linter.unusedSimpArgs false
set_option linter.unusedVariables false
set_option linter.defProp false
namespace Go.Am
open Go.Proofs
theorem st_alS_163 : alS tabA 163 = some [(.map none)] := by kernel_rfl
theorem st_alS_166 : alS tabA 166 = some [(.int IntKind.i64 0), (.int IntKind.u64 0)] := by kernel_rfl
theorem st_alS_168 : alS tabA 168 = some [(.int IntKind.i64 0), (.int IntKind.i64 0), (.bool false), (.int IntKind.i64 0), (.int IntKind.u64 0)] := by kernel_rfl
theorem st_alS_178 : alS tabA 178 = some [(.slice none 0 0), (.slice none 0 0), (.slice none 0 0), (.slice none 0 0), (.slice none 0 0), (.slice none 0 0), (.slice none 0 0), (.slice none 0 0), (.slice none 0 0), (.slice none 0 0), (.slice none 0 0), (.slice none 0 0), (.slice none 0 0), (.slice none 0 0), (.slice none 0 0), (.slice none 0 0), (.slice none 0 0), (.slice none 0 0), (.slice none 0 0), (.slice none 0 0), (.slice none 0 0), (.slice none 0 0), (.slice none 0 0), (.slice none 0 0), (.slice none 0 0), (.slice none 0 0), (.slice none 0 0), (.slice none 0 0), (.slice none 0 0), (.slice none 0 0), (.slice none 0 0), (.slice none 0 0), (.slice none 0 0), (.slice none 0 0), (.slice none 0 0), (.slice none 0 0), (.slice none 0 0), (.slice none 0 0), (.slice none 0 0), (.slice none 0 0), (.slice none 0 0), (.slice none 0 0), (.slice none 0 0), (.slice none 0 0), (.slice none 0 0), (.slice none 0 0), (.slice none 0 0), (.slice none 0 0), (.slice none 0 0), (.slice none 0 0), (.slice none 0 0), (.slice none 0 0), (.slice none 0 0), (.slice none 0 0), (.slice none 0 0), (.slice none 0 0), (.slice none 0 0), (.slice none 0 0), (.slice none 0 0), (.slice none 0 0), (.slice none 0 0), (.slice none 0 0), (.slice none 0 0), (.slice none 0 0), (.slice none 0 0), (.slice none 0 0), (.slice none 0 0), (.slice none 0 0), (.slice none 0 0), (.slice none 0 0), (.slice none 0 0), (.slice none 0 0), (.slice none 0 0), (.slice none 0 0), (.slice none 0 0), (.slice none 0 0), (.slice none 0 0), (.slice none 0 0), (.slice none 0 0), (.slice none 0 0), (.slice none 0 0), (.slice none 0 0), (.slice none 0 0), (.slice none 0 0), (.slice none 0 0), (.slice none 0 0), (.slice none 0 0), (.slice none 0 0), (.slice none 0 0), (.slice none 0 0), (.slice none 0 0), (.slice none 0 0), (.slice none 0 0), (.slice none 0 0), (.slice none 0 0), (.slice none 0 0), (.slice none 0 0), (.slice none 0 0), (.slice none 0 0), (.slice none 0 0), (.slice none 0 0), (.slice none 0 0), (.slice none 0 0), (.slice none 0 0), (.slice none 0 0), (.slice none 0 0), (.slice none 0 0), (.slice none 0 0), (.slice none 0 0), (.slice none 0 0), (.slice none 0 0), (.slice none 0 0), (.slice none 0 0), (.slice none 0 0), (.slice none 0 0), (.slice none 0 0), (.slice none 0 0), (.slice none 0 0), (.slice none 0 0), (.slice none 0 0), (.slice none 0 0), (.slice none 0 0), (.slice none 0 0), (.slice none 0 0), (.slice none 0 0), (.slice none 0 0), (.slice none 0 0), (.slice none 0 0), (.slice none 0 0), (.slice none 0 0), (.slice none 0 0), (.slice none 0 0), (.slice none 0 0), (.slice none 0 0), (.slice none 0 0), (.slice none 0 0), (.slice none 0 0), (.slice none 0 0), (.slice none 0 0), (.slice none 0 0), (.slice none 0 0), (.slice none 0 0), (.slice none 0 0), (.slice none 0 0), (.slice none 0 0), (.slice none 0 0), (.slice none 0 0), (.slice none 0 0), (.slice none 0 0), (.slice none 0 0), (.slice none 0 0), (.slice none 0 0), (.slice none 0 0), (.slice none 0 0), (.slice none 0 0), (.slice none 0 0), (.slice none 0 0), (.slice none 0 0), (.slice none 0 0), (.slice none 0 0), (.slice none 0 0), (.slice none 0 0), (.slice none 0 0), (.slice none 0 0), (.slice none 0 0), (.slice none 0 0), (.slice none 0 0), (.slice none 0 0), (.slice none 0 0), (.slice none 0 0), (.slice none 0 0), (.slice none 0 0), (.slice none 0 0), (.slice none 0 0), (.slice none 0 0), (.slice none 0 0), (.slice none 0 0), (.slice none 0 0), (.slice none 0 0), (.slice none 0 0), (.slice none 0 0), (.slice none 0 0), (.slice none 0 0), (.slice none 0 0), (.slice none 0 0), (.slice none 0 0), (.slice none 0 0), (.slice none 0 0), (.slice none 0 0), (.slice none 0 0), (.slice none 0 0), (.slice none 0 0), (.slice none 0 0), (.slice none 0 0), (.slice none 0 0), (.slice none 0 0), (.slice none 0 0), (.slice none 0 0), (.slice none 0 0), (.slice none 0 0), (.slice none 0 0), (.slice none 0 0), (.slice none 0 0), (.slice none 0 0), (.slice none 0 0), (.slice none 0 0), (.slice none 0 0), (.slice none 0 0), (.slice none 0 0), (.slice none 0 0), (.slice none 0 0), (.slice none 0 0), (.slice none 0 0), (.slice none 0 0), (.slice none 0 0), (.slice none 0 0), (.slice none 0 0), (.slice none 0 0), (.slice none 0 0), (.slice none 0 0), (.slice none 0 0), (.slice none 0 0), (.slice none 0 0), (.slice none 0 0), (.slice none 0 0), (.slice none 0 0), (.slice none 0 0), (.slice none 0 0), (.slice none 0 0), (.slice none 0 0), (.slice none 0 0), (.slice none 0 0), (.slice none 0 0), (.slice none 0 0), (.slice none 0 0), (.slice none 0 0), (.slice none 0 0), (.slice none 0 0), (.slice none 0 0), (.slice none 0 0), (.slice none 0 0)] := by kernel_rfl
theorem st_alS_180 : alS tabA 180 = some [.nilFunc] := by kernel_rfl
theorem st_alS_3 : alS tabA 3 = some [(.int IntKind.i64 0)] := by kernel_rfl
theorem st_apS_101 : apS tabA 101 = some (105, 1, 8) := by kernel_rfl
theorem st_apS_177 : apS tabA 177 = some (166, 2, 16) := by kernel_rfl
theorem st_apS_32 : apS tabA 32 = some (46, 9, 72) := by kernel_rfl
theorem st_arS_178 : arS tabA 178 = some (241, 1) := by kernel_rfl
theorem st_bdS_166 : bdS tabA 166 = some ([(.int IntKind.i64 0), (.int IntKind.u64 0)], [(0, 1), (1, 1)]) := by kernel_rfl
theorem st_bdS_168 : bdS tabA 168 = some ([(.int IntKind.i64 0), (.int IntKind.i64 0), (.bool false), (.int IntKind.i64 0), (.int IntKind.u64 0)], [(0, 1), (1, 2), (3, 2)]) := by kernel_rfl
theorem st_brS_101_1 : brS tabA 101 1 = some (1, 105, [(.int IntKind.i64 0)]) := by kernel_rfl
theorem st_brS_177_1 : brS tabA 177 1 = some (2, 166, [(.int IntKind.i64 0), (.int IntKind.u64 0)]) := by kernel_rfl
theorem st_esS_101 : esS tabA 101 = some 1 := by kernel_rfl
theorem st_esS_177 : esS tabA 177 = some 2 := by kernel_rfl
theorem st_faS_166_0 : faS tabA 166 0 = some 0 := by kernel_rfl
theorem st_faS_166_1 : faS tabA 166 1 = some 1 := by kernel_rfl
theorem st_faS_168_0 : faS tabA 168 0 = some 0 := by kernel_rfl
theorem st_faS_168_1 : faS tabA 168 1 = some 1 := by kernel_rfl
theorem st_faS_168_2 : faS tabA 168 2 = some 3 := by kernel_rfl
theorem st_inS_105 : inS tabA 105 = some 1 := by kernel_rfl
theorem st_inS_163 : inS tabA 163 = some 1 := by kernel_rfl
theorem st_inS_166 : inS tabA 166 = some 2 := by kernel_rfl
theorem st_inS_168 : inS tabA 168 = some 5 := by kernel_rfl
theorem st_inS_177 : inS tabA 177 = some 1 := by kernel_rfl
theorem st_inS_180 : inS tabA 180 = some 1 := by kernel_rfl
theorem st_ldS_142 : ldS tabA 142 = some 0 := by kernel_rfl
theorem st_ldS_163 : ldS tabA 163 = some 0 := by kernel_rfl
theorem st_ldS_166 : ldS tabA 166 = some 3 := by kernel_rfl
theorem st_ldS_177 : ldS tabA 177 = some 0 := by kernel_rfl
theorem st_ldS_180 : ldS tabA 180 = some 0 := by kernel_rfl
theorem fn_38 : tabA.fn 38 = some Try.f38 := by kernel_rfl
theorem fn_62 : tabA.fn 62 = some Try.f62 := by kernel_rfl
theorem fn_92 : tabA.fn 92 = some Try.f92 := by kernel_rfl
theorem fn_110 : tabA.fn 110 = some Try.f110 := by kernel_rfl
theorem fn_120 : tabA.fn 120 = some Try.f120 := by kernel_rfl
theorem fn_121 : tabA.fn 121 = some Try.f121 := by kernel_rfl
theorem fn_132 : tabA.fn 132 = some Try.f132 := by kernel_rfl
theorem fn_133 : tabA.fn 133 = some Try.f133 := by kernel_rfl
def ysx := (And.intro (And.intro (And.intro (And.intro (And.intro @st_alS_163 @st_alS_166) (And.intro @st_alS_168 @st_alS_178)) (And.intro (And.intro @st_alS_180 @st_alS_3) (And.intro @st_apS_101 @st_apS_177))) (And.intro (And.intro (And.intro @st_apS_32 @st_arS_178) (And.intro @st_bdS_166 @st_bdS_168)) (And.intro (And.intro @st_brS_101_1 @st_brS_177_1) (And.intro @st_esS_101 @st_esS_177)))) (And.intro (And.intro (And.intro (And.intro @st_faS_166_0 @st_faS_166_1) (And.intro @st_faS_168_0 @st_faS_168_1)) (And.intro (And.intro @st_faS_168_2 @st_inS_105) (And.intro @st_inS_163 @st_inS_166))) (And.intro (And.intro (And.intro @st_inS_168 @st_inS_177) (And.intro @st_inS_180 @st_ldS_142)) (And.intro (And.intro @st_ldS_163 @st_ldS_166) (And.intro @st_ldS_177 @st_ldS_180)))))
end Go.Am
set_option linter.defProp false
namespace Go.Am
open Go.Proofs
theorem st_brS_101_0 : brS tabA 101 0 = some (1, 105, []) := by kernel_rfl
theorem fn_16 : tabA.fn 16 = some Try.f16 := by kernel_rfl
theorem fn_67 : tabA.fn 67 = some Try.f67 := by kernel_rfl
theorem fn_68 : tabA.fn 68 = some Try.f68 := by kernel_rfl
theorem fn_72 : tabA.fn 72 = some Try.f72 := by kernel_rfl
theorem fn_113 : tabA.fn 113 = some Try.f113 := by kernel_rfl
def ysz := @st_brS_101_0
end Go.Am
namespace Go.Am
open Go.Proofs
section
variable {l l' : List Str} {C w w' ld ld' fr a₀ a₁ : Int}
structure WorseS (t s : Str) : Prop where
 fr : s.fr = t.fr
 to : s.to = t.to
 mi : s.mi = t.mi
 up : s.up = t.up
 wi : s.wi ≤ t.wi
 be : s.be ≤ t.be
 bk : s.bk = true → t.bk = true
 shut : t.hi < t.lo ∨ (s.lo ≤ t.lo ∧ t.hi ≤ s.hi ∧ s.lo ≤ s.hi)
theorem WorseS.refl (s : Str) : WorseS s s := ⟨rfl, rfl, rfl, rfl, Int.le_refl _, Int.le_refl _, id, by omega⟩
theorem OkS_iff {s : Str} : OkS C s ↔ (0 ≤ s.fr ∧ s.fr ≤ C - 1) ∧ (0 ≤ s.to ∧ s.to ≤ C - 1) ∧ s.fr ≠ s.to ∧ (1 ≤ s.mi ∧ s.mi ≤ 30) ∧ (0 ≤ s.up ∧ s.up ≤ 3) ∧ (1 ≤ s.wi ∧ s.wi ≤ 9) ∧ (0 ≤ s.be ∧ s.be ≤ 9) ∧ (0 ≤ s.lo ∧ s.lo ≤ 239) ∧ (0 ≤ s.hi ∧ s.hi ≤ 239) := by
 unfold OkS bad1 bad2
 simp only [Bool.or_eq_false_iff,off_iff,decide_eq_false_iff_not]
 constructor
 ·rintro ⟨⟨h1, h2, h3⟩, h4, h5, h6, h7, h8, h9⟩; exact ⟨h1, h2, h3, h4, h5, h6, h7, h8, h9⟩
 ·rintro ⟨h1, h2, h3, h4, h5, h6, h7, h8, h9⟩; exact ⟨⟨h1, h2, h3⟩, h4, h5, h6, h7, h8, h9⟩
end
end Go.Am
namespace Go.Am
open Go.Proofs
variable {T : Tab} {P : Program} {N L : Nat} {H : AHeap} {Q : Bool → Value → AHeap → Prop}
theorem pureRun_bind {α β : Type} (P : Program) (s : Sem α) (f : α → Sem β) : pureRun P (s >>= f) = (pureRun P s).bind fun a => pureRun P (f a) := by
 show pureRun P (Sem.bind s f) = _
 induction s with
 | pure a => rfl
 | program k ih => simp only [Sem.bind,pureRun]; exact ih P
 | _ => rfl
theorem prI {n : Nat} {a b : Int} : pureRun Try.prog (Op.equalIn (n + 1) 3 (.int .i64 a) (.int .i64 b)) = some (a == b) := by kernel_rfl
theorem prU {n : Nat} {a b : Int} : pureRun Try.prog (Op.equalIn (n + 1) 142 (.int .u64 a) (.int .u64 b)) = some (a == b) := by kernel_rfl
theorem prP {c d : Int} : pureRun Try.prog (Go.part 3 ⟨[.int .i64 c, .int .u64 d]⟩ 0) = some (.int .i64 c) := by kernel_rfl
theorem prQ {c d : Int} : pureRun Try.prog (Go.part 142 ⟨[.int .i64 c, .int .u64 d]⟩ 1) = some (.int .u64 d) := by kernel_rfl
theorem prS : Try.prog.stoodInHeld 166 = false := by kernel_rfl
theorem prG : pureRun Try.prog program = some Try.prog := rfl
theorem prPure {α : Type} {P : Program} (a : α) : pureRun P (pure a : Sem α) = some a := rfl
theorem prH : pureRun Try.prog (underlying 166) = some (.struct #[{ name := "corner", type := 3, offset := 0, embedded := false, tag := "", pkgPath := "laystall/street", byteOffset := 0 }, { name := "done", type := 142, offset := 1, embedded := false, tag := "", pkgPath := "laystall/street", byteOffset := 8 }]) := by kernel_rfl
theorem eq166 {c d c' d' : Int} : pureRun Try.prog (Op.equal 166 (.agg ⟨[.int .i64 c, .int .u64 d]⟩) (.agg ⟨[.int .i64 c', .int .u64 d']⟩)) = some (decide (c = c') && decide (d = d')) := by
 show pureRun Try.prog (Op.equalIn (9998 + 1 + 1) 166 _ _) = _
 unfold Op.equalIn
 rw [pureRun_bind, prH]
 simp only [Option.bind_some,pureRun_bind,prG,prS,Bool.false_eq_true,if_false,List.forIn_toArray,List.forIn_cons,List.forIn_nil,ne_eq,prP,prI,show ("corner" = "_") = False by simp,show ("done" = "_") = False by simp,not_false_eq_true,if_true]
 have e1 : (c == c') = decide (c = c') := rfl
 have e2 : (d == d') = decide (d = d') := rfl
 rw [e1]
 cases decide (c = c')
 ·rfl
 ·simp only [Bool.not_true,Bool.false_eq_true,if_false,prPure,Option.bind_some,pureRun_bind,prQ,prU,e2]
  cases decide (d = d') <;> rfl
theorem ck166 {em : Bool} {c d : Int} : pureRun Try.prog (Instr.checkKey em 10000 166 (.agg ⟨[.int .i64 c, .int .u64 d]⟩)) = some () := by
 cases em <;> kernel_rfl
theorem sb166 {c d : Int} : Instr.sameBits 10000 (.agg ⟨[.int .i64 c, .int .u64 d]⟩) (.agg ⟨[.int .i64 c, .int .u64 d]⟩) = true := by
 have h : Instr.sameBits 10000 (.agg ⟨[.int .i64 c, .int .u64 d]⟩) (.agg ⟨[.int .i64 c, .int .u64 d]⟩) = (true && ((true && (c == c)) && ((true && (d == d)) && true))) := rfl
 rw [h]
 simp
structure Arv where
 m : Int
 i : Int
 b : Bool
 c : Int
 d : Int
 deriving DecidableEq
abbrev Stt := Int × Int
def kv (s : Stt) : Value := .agg ⟨[.int .i64 s.1, .int .u64 s.2]⟩
def av (a : Arv) : Value := .agg ⟨[.int .i64 a.m, .int .i64 a.i, .bool a.b, .int .i64 a.c, .int .u64 a.d]⟩
abbrev Fm := List (Stt × Arv)
def flk : Fm → Stt → Option Arv
 | [], _ => none
 | p :: F, s => if s = p.1 then some p.2 else flk F s
def fup : Fm → Stt → Arv → Fm
 | [], s, a => [(s, a)]
 | p :: F, s, a => if s = p.1 then (s, a) :: F else p :: fup F s a
theorem flk_up {F : Fm} {s s' : Stt} {a : Arv} : flk (fup F s a) s' = if s' = s then some a else flk F s' := by
 induction F with
 | nil => simp only [fup,flk]
 | cons p F ih =>
  unfold fup
  by_cases h : s = p.1
  ·rw [if_pos h]
   simp only [flk]
   by_cases h' : s' = s
   ·rw [if_pos h', if_pos h']
   ·rw [if_neg h', if_neg h', if_neg (by rw [← h]; exact h')]
  ·rw [if_neg h]
   simp only [flk]
   by_cases h' : s' = p.1
   ·rw [if_pos h', if_pos h', if_neg (fun e => h (by rw [← e]; exact h'))]
   ·rw [if_neg h', if_neg h', ih]
def MpB (blk : ABlk) (F : Fm) : Prop := ∃ es clock, blk = .map es clock ∧ es.map (fun e => (e.1, e.2.1)) = F.map fun p => (kv p.1, av p.2)
theorem eqKv {s s' : Stt} : pureRun Try.prog (Op.equal 166 (kv s) (kv s')) = some (decide (s = s')) := by
 unfold kv
 rw [eq166]
 congr 1
 rw [← Bool.decide_and]
 congr 1
 exact propext ⟨fun h => Prod.ext h.1 h.2, fun h => by rw [h]; exact ⟨rfl, rfl⟩⟩
theorem gr_kv (s : Stt) : gr (kv s) = true := rfl
def fix : Fm → Stt → Nat → Option (Nat × Value)
 | [], _, _ => none
 | p :: F, s, i => if s = p.1 then some (i, av p.2) else fix F s (i + 1)
theorem aFind_kv {s : Stt} : ∀ {es : List (Value × Value × Nat)} {F : Fm} {i : Nat}, es.map (fun e => (e.1, e.2.1)) = F.map (fun p => (kv p.1, av p.2)) → aFind Try.prog 166 (kv s) es i = some (fix F s i)
 | [], [], i, _ => rfl
 | [], _ :: _, i, h => by simp at h
 | _ :: _, [], i, h => by simp at h
 | e :: es, p :: F, i, h => by
  simp only [List.map_cons,List.cons.injEq,Prod.mk.injEq] at h
  obtain ⟨⟨h1, h2⟩, h3⟩ := h
  unfold aFind fix
  rw [h1, h2, gr_kv, cond_true, eqKv]
  by_cases hs : s = p.1
  ·simp [hs]
  ·rw [if_neg hs]
   simp only [hs,decide_false]
   exact aFind_kv h3
theorem und166 : tabA.und 166 = some (.struct #[{ name := "corner", type := 3, offset := 0, embedded := false, tag := "", pkgPath := "laystall/street", byteOffset := 0 }, { name := "done", type := 142, offset := 1, embedded := false, tag := "", pkgPath := "laystall/street", byteOffset := 8 }]) := by kernel_rfl
theorem aFindKey_kv {s : Stt} {es : List (Value × Value × Nat)} {F : Fm} (h : es.map (fun e => (e.1, e.2.1)) = F.map (fun p => (kv p.1, av p.2))) : aFindKey tabA Try.prog 166 (kv s) es = some (fix F s 0) := by
 unfold aFindKey
 rw [und166]
 cases es with
 | nil =>
  cases F with
  | nil => rfl
  | cons p F => simp at h
 | cons e es =>
  have : aFindNow (.struct #[{ name := "corner", type := 3, offset := 0, embedded := false, tag := "", pkgPath := "laystall/street", byteOffset := 0 }, { name := "done", type := 142, offset := 1, embedded := false, tag := "", pkgPath := "laystall/street", byteOffset := 8 }]) (kv s) (e :: es) 0 = none := rfl
  simp only [this]
  exact aFind_kv h
theorem fix_none {F : Fm} {s : Stt} : ∀ {i : Nat}, fix F s i = none ↔ flk F s = none := by
 induction F with
 | nil => simp [fix, flk]
 | cons p F ih =>
  intro i
  unfold fix flk
  by_cases h : s = p.1
  ·simp [h]
  ·rw [if_neg h, if_neg h]; exact ih
theorem fix_some {F : Fm} {s : Stt} : ∀ {i j : Nat} {v : Value}, fix F s i = some (j, v) → i ≤ j ∧ ∃ a, flk F s = some a ∧ v = av a ∧ F[j - i]? = some (s, a) := by
 induction F with
 | nil => simp [fix]
 | cons p F ih =>
  intro i j v h
  unfold fix at h
  unfold flk
  by_cases hs : s = p.1
  ·rw [if_pos hs] at h ⊢
   cases h
   exact ⟨Nat.le_refl _, p.2, rfl, rfl, by simp [hs]⟩
  ·rw [if_neg hs] at h ⊢
   obtain ⟨h1, a, h2, h3, h4⟩ := ih h
   refine ⟨by omega, a, h2, h3, ?_⟩
   rw [show j - i = (j - (i + 1)) + 1 by omega, List.getElem?_cons_succ]
   exact h4
theorem fup_set {F : Fm} {s : Stt} {a : Arv} : ∀ {i j : Nat} {v : Value}, fix F s i = some (j, v) → fup F s a = F.set (j - i) (s, a) := by
 induction F with
 | nil => simp [fix]
 | cons p F ih =>
  intro i j v h
  have hf := fix_some h
  unfold fix at h
  unfold fup
  by_cases hs : s = p.1
  ·rw [if_pos hs] at h ⊢
   cases h
   simp
  ·rw [if_neg hs] at h ⊢
   have h1 := (fix_some h).1
   rw [ih h, show j - i = (j - (i + 1)) + 1 by omega, List.set_cons_succ]
theorem fup_app {F : Fm} {s : Stt} {a : Arv} (h : flk F s = none) : fup F s a = F ++ [(s, a)] := by
 induction F with
 | nil => rfl
 | cons p F ih =>
  unfold flk at h
  unfold fup
  by_cases hs : s = p.1
  ·rw [if_pos hs] at h; cases h
  ·rw [if_neg hs] at h ⊢
   rw [ih h]; rfl
theorem und163 : tabA.und 163 = some (.map 166 168) := by kernel_rfl
section
variable {ex : Exec} {t : Operand → Option Value} {x ix y : Operand} {k : Nat} {F : Fm} {s : Stt}
theorem inf168 : ∃ i z, tabA.inf 168 = some i ∧ i.zero = some z ∧ z = av ⟨0, 0, false, 0, 0⟩ := ⟨Try.t168, av ⟨0, 0, false, 0, 0⟩, by kernel_rfl, by kernel_rfl, rfl⟩
def orZero : Option Arv → Arv
 | some a => a
 | none => ⟨0, 0, false, 0, 0⟩
theorem A_look {ok : Bool} (hx : t x = some (.map (some k))) (hi : t ix = some (kv s)) (hM : MpB (H.get k) F) (hL : L ≤ H.size) (hq : Q true (bif ok then .tuple ⟨[av (orZero (flk F s)), .bool (flk F s).isSome]⟩ else av (orZero (flk F s))) H) :
  A tabA Try.prog ex t H L (.lookup 163 x ix ok) Q := by
 obtain ⟨es, clock, hb, he⟩ := hM
 obtain ⟨i, z, z1, z2, z3⟩ := inf168
 have hgz : gr z = true := by rw [z3]; rfl
 unfold A
 show (match still (aLookup tabA Try.prog t H 163 x ix ok) with
  | some (b, v, H', m) => L ≤ m ∧ Q b v H'
  | none => False)
 have hck : pureRun Try.prog (Instr.checkKey es.isEmpty 10000 166 (kv s)) = some () := ck166
 unfold aLookup
 simp only [und163,hx,hi,aMapOf,hb,gr_kv,cond_true,hck,aFindKey_kv he]
 cases hf : fix F s 0 with
 | none =>
  rw [fix_none.1 hf] at hq
  simp only [z1,z2,hgz,cond_true]
  cases ok <;> exact ⟨hL, by rw [z3]; exact hq⟩
 | some p =>
  obtain ⟨j, v⟩ := p
  obtain ⟨-, a, h1, rfl, -⟩ := fix_some hf
  rw [h1] at hq
  cases ok <;> exact ⟨hL, hq⟩
theorem aUpd {v : Arv} (hx : t x = some (.map (some k))) (hi : t ix = some (kv s)) (hy : t y = some (av v)) (hM : MpB (H.get k) F) : ∃ blk, MpB blk (fup F s v) ∧ aUpdate tabA Try.prog t H 163 x ix y = some (undef, H.put k blk, k) := by
 obtain ⟨es, clock, hb, he⟩ := hM
 have hck : pureRun Try.prog (Instr.checkKey false 10000 166 (kv s)) = some () := ck166
 unfold aUpdate
 simp only [und163,hx,hi,hy,hb,gr_kv,cond_true,hck,aFindKey_kv he]
 cases hf : fix F s 0 with
 | none =>
  refine ⟨_, ⟨_, _, rfl, ?_⟩, rfl⟩
  rw [fup_app (fix_none.1 hf), List.map_append, List.map_append, he]; rfl
 | some p =>
  obtain ⟨j, u⟩ := p
  obtain ⟨-, a, h1, rfl, h2⟩ := fix_some hf
  rw [Nat.sub_zero] at h2
  have hlen : es.length = F.length := by
   have := congrArg List.length he
   simpa using this
  have hj : j < es.length := by
   have := (List.getElem?_eq_some_iff.1 h2).1
   omega
  obtain ⟨en, hen⟩ : ∃ en, es[j]? = some en := ⟨es[j], by simp [hj]⟩
  have hk : en.1 = kv s := by
   have h3 : (es.map fun e => (e.1, e.2.1))[j]? = some (en.1, en.2.1) := by rw [List.getElem?_map, hen]; rfl
   rw [he, List.getElem?_map, h2] at h3
   simp only [Option.map_some,Option.some.injEq,Prod.mk.injEq] at h3
   exact h3.1.symm
  have hsb : Instr.sameBits 10000 (kv s) (kv s) = true := sb166
  simp only [hen,hk,gr_kv,hsb,Bool.and_self,cond_true]
  refine ⟨_, ⟨_, _, rfl, ?_⟩, rfl⟩
  rw [fup_set hf, Nat.sub_zero, List.map_set, List.map_set, he]
theorem A_upd {v : Arv} (hx : t x = some (.map (some k))) (hi : t ix = some (kv s)) (hy : t y = some (av v)) (hM : MpB (H.get k) F) (hL : L ≤ k) (hq : ∀ blk, MpB blk (fup F s v) → Q false undef (H.put k blk)) :
  A tabA Try.prog ex t H L (.mapUpdate 163 x ix y) Q := by
 obtain ⟨blk, h1, h2⟩ := aUpd hx hi hy hM
 unfold A
 show (match moves (aUpdate tabA Try.prog t H 163 x ix y) with
  | some (b, v, H', m) => L ≤ m ∧ Q b v H'
  | none => False)
 rw [h2]
 exact ⟨hL, hq _ h1⟩
theorem A_ins {v : Arv} (hx : t x = some (.map (some k))) (hi : t ix = some (kv s)) (hy : t y = some (av v)) (hM : MpB (H.get k) F) (hL : L ≤ k) (hq : ∀ blk, MpB blk (fup F s v) → Q false undef (H.put k blk)) :
  A tabA Try.prog ex t H L (.insert 163 x ix y) Q := by
 obtain ⟨blk, h1, h2⟩ := aUpd hx hi hy hM
 unfold A
 show (match moves (aUpdate tabA Try.prog t H 163 x ix y) with
  | some (b, v, H', m) => L ≤ m ∧ Q b v H'
  | none => False)
 rw [h2]
 exact ⟨hL, hq _ h1⟩
theorem A_make {r : Nat} : A tabA Try.prog ex t H L (.makeMap r none) Q = andK (L ≤ H.size) (Q false (.map (some H.size)) (H.alloc (.map [] 0))) := by
 unfold A
 show (match fresh H (newMap none) with
  | some (b, v, H', m) => L ≤ m ∧ Q b v H'
  | none => False) = _
 rfl
end
end Go.Am
