/- Rows of things of one width. -/
import Derived.Test.YtjpcaamfcfkmhaaT16
set_option linter.unusedSimpArgs false
set_option linter.unusedVariables false
namespace Go.Am
open Go.Proofs
variable {T : Tab} {P : Program} {N L : Nat} {H H' : AHeap} {Q : Bool → Value → AHeap → Prop} {α : Type}
/-- How things of a kind lie in cells. -/
structure Enc (α : Type) where
 f : α → List Value
 z : Nat
 len : ∀ x, (f x).length = z
 one : ∀ x, oneCells (f x) = true
def Enc.fl (E : Enc α) : List α → List Value
 | [] => []
 | x :: l => E.f x ++ E.fl l
variable {E : Enc α} {l l' : List α} {x : α} {i : Nat}
theorem fl_length : ∀ l : List α, (E.fl l).length = l.length * E.z
 | [] => by simp [Enc.fl]
 | x :: l => by rw [Enc.fl, List.length_append, E.len, fl_length l, List.length_cons, Nat.succ_mul, Nat.add_comm]
theorem fl_app : ∀ l l' : List α, E.fl (l ++ l') = E.fl l ++ E.fl l'
 | [], l' => rfl
 | x :: l, l' => by
  show E.f x ++ E.fl (l ++ l') = E.f x ++ E.fl l ++ E.fl l'
  rw [fl_app l l', List.append_assoc]
theorem one_app {a b : List Value} (ha : oneCells a = true) (hb : oneCells b = true) : oneCells (a ++ b) = true := by
 induction a with
 | nil => exact hb
 | cons v a ih =>
  unfold oneCells at ha
  rw [Bool.and_eq_true] at ha
  show (v.oneCell' && oneCells (a ++ b)) = true
  rw [ha.1, ih ha.2]; rfl
theorem one_fl : ∀ l : List α, oneCells (E.fl l) = true
 | [] => rfl
 | x :: l => one_app (E.one x) (one_fl l)
theorem fl_at : ∀ {l : List α} {i : Nat}, l[i]? = some x → ((E.fl l).drop (i * E.z)).take E.z = E.f x
 | [], i, h => by simp at h
 | y :: l, 0, h => by
  simp only [List.getElem?_cons_zero,Option.some.injEq] at h
  subst h
  rw [Nat.zero_mul, List.drop_zero, Enc.fl, ← E.len y, List.take_left]
 | y :: l, i + 1, h => by
  rw [Enc.fl, show (i + 1) * E.z = (E.f y).length + i * E.z by rw [E.len, Nat.succ_mul, Nat.add_comm], List.drop_length_add_append]
  exact fl_at (by simpa using h)
theorem newC_fl {k : Nat} {s : α} (h : k < l.length) : newC (k * E.z) (E.f s) (E.fl l) = E.fl (l.set k s) := by
 obtain ⟨r, hr⟩ : ∃ r, l[k] = r := ⟨_, rfl⟩
 have e : l = l.take k ++ (r :: l.drop (k + 1)) := by
  rw [← hr, List.getElem_cons_drop, List.take_append_drop]
 have hk : (E.fl (l.take k)).length = k * E.z := by rw [fl_length, List.length_take]; congr 1; omega
 have e2 : E.fl l = E.fl (l.take k) ++ (E.f r ++ E.fl (l.drop (k + 1))) := by
  conv => lhs; rw [e]
  rw [fl_app]; rfl
 have e3 : E.fl (l.set k s) = E.fl (l.take k) ++ (E.f s ++ E.fl (l.drop (k + 1))) := by
  rw [List.set_eq_take_append_cons_drop, if_pos h, fl_app]; rfl
 have hz : k * E.z = (E.fl (l.take k)).length + 0 := by omega
 rw [e2, e3, hz, newC_app, newC_pre (by rw [E.len, E.len]; omega), newC_all (by rw [E.len, E.len])]
/-- A slice of such things. -/
structure Rw (E : Enc α) (H : AHeap) (a : Option Addr) (l : List α) : Prop where
 get : l ≠ [] → ∃ b o c, a = some ⟨b, o, none⟩ ∧ b < H.size ∧ cellsOf (H.get b) = some c ∧ (c.drop o).take (l.length * E.z) = E.fl l
theorem Rw.nil {a : Option Addr} : Rw E H a [] := ⟨fun h => absurd rfl h⟩
theorem Rw.fr {a : Option Addr} (h : Rw E H a l) (f : Fr H H') : Rw E H' a l := ⟨fun hl => by
 obtain ⟨b, o, c, h1, h2, h3, h4⟩ := h.get hl
 exact ⟨b, o, c, h1, Nat.lt_of_lt_of_le h2 f.size, by rw [f.same b h2]; exact h3, h4⟩⟩
theorem Rw.src {b o : Nat} {s : Option Nat} (h : Rw E H (some ⟨b, o, s⟩) l) (hl : l ≠ []) : srcCells H ⟨b, o, s⟩ (l.length * E.z) = some (E.fl l) := by
 obtain ⟨b', o', c', h1, h2, h3, h4⟩ := h.get hl
 cases h1
 unfold srcCells
 rw [h3]
 simp only [h4,fl_length,show Nat.beq (l.length * E.z) (l.length * E.z) = true by simp,cond_true]
theorem drop_take_at {c : List Value} {o n z i : Nat} (hi : i + z ≤ n) : (((c.drop o).take n).drop i).take z = (c.drop (o + i)).take z := by
 rw [List.drop_take, List.take_take, List.drop_drop, Nat.min_eq_left (by omega)]
/-- What lies at a place of it. -/
theorem Rw.at_ {a : Option Addr} (h : Rw E H a l) (hi : l[i]? = some x) : ∃ b o c, a = some ⟨b, o, none⟩ ∧ b < H.size ∧ cellsOf (H.get b) = some c ∧ (c.drop (o + i * E.z)).take E.z = E.f x := by
 have hlt := (List.getElem?_eq_some_iff.1 hi).1
 obtain ⟨b, o, c, h1, h2, h3, h4⟩ := h.get (fun h0 => by rw [h0] at hlt; simp at hlt)
 refine ⟨b, o, c, h1, h2, h3, ?_⟩
 have h5 : i * E.z + E.z ≤ l.length * E.z := by
  rw [← Nat.succ_mul]
  exact Nat.mul_le_mul_right _ hlt
 rw [← drop_take_at (n := l.length * E.z) h5, h4]
 exact fl_at hi
theorem Rw.of {b : Nat} {c r : List Value} (hb : b < H.size) (h : cellsOf (H.get b) = some c) (hc : c = E.fl l ++ r) : Rw E H (some ⟨b, 0, none⟩) l := ⟨fun _ => ⟨b, 0, c, rfl, hb, h, by
 rw [List.drop_zero, hc, ← fl_length, List.take_left]⟩⟩
theorem Grow.rw {tb c el : Nat} {a : Option Addr} (g : Grow H tb (.slice a l.length c) l.length (E.fl l) el E.z) : Rw E H a l := ⟨fun hne => by
 obtain ⟨b, al, h1, h2, h3, h4, h5⟩ := g.cons (by simpa using hne)
 cases h1
 exact (Rw.of (r := []) h3 (by rw [h4]; rfl) (by rw [List.append_nil])).get hne⟩
/-- Of things of more than one cell, as the machine loads them. -/
theorem part_of {c L : List Value} {k s : Nat} (h : (c.drop k).take s = L) (hl : L.length = s) : part c k (s + 1) = some (.agg ⟨L⟩) := by
 unfold part
 simp only [h,hl,show Nat.beq s s = true by simp,cond_true]
theorem cell_of {c : List Value} {k : Nat} {v : Value} (h : (c.drop k).take 1 = [v]) : c[k]? = some v := by
 have : ((c.drop k).take 1)[0]? = some v := by rw [h]; rfl
 rw [List.getElem?_take, if_pos (by omega), List.getElem?_drop, Nat.add_zero] at this
 exact this
/-- Whole numbers, one behind the other. -/
def intE : Enc Int := ⟨fun n => [.int .i64 n], 1, fun _ => rfl, fun _ => rfl⟩
end Go.Am
/- Pickings, and sums of numbers. -/
namespace Go.Am
open Go.Proofs
variable {T : Tab} {P : Program} {N L : Nat} {H : AHeap} {Q : Bool → Value → AHeap → Prop}
structure Pk where
 s : Int
 w : Int
 o : Int
 f : Int
def Pk.enc (p : Pk) : List Value := [.int .i64 p.s, .int .i64 p.w, .int .i64 p.o, .int .i64 p.f]
def pkE : Enc Pk := ⟨Pk.enc, 4, fun _ => rfl, fun _ => rfl⟩
structure Gd where
 fo : Int
 pr : Int
def Gd.enc (g : Gd) : List Value := [.int .i64 g.fo, .int .i64 g.pr]
def gdE : Enc Gd := ⟨Gd.enc, 2, fun _ => rfl, fun _ => rfl⟩
structure Pk.Ok (p : Pk) : Prop where
 s : 0 ≤ p.s ∧ p.s ≤ 6
 w : 0 ≤ p.w ∧ p.w ≤ p.s
 o : 0 ≤ p.o ∧ p.o ≤ p.s
 f : 0 ≤ p.f ∧ p.f ≤ p.o
/-- The greatest number of foul sacks. -/
def Pk.hi (p : Pk) : Int := if p.s - p.o + p.f < p.w then p.s - p.o + p.f else p.w
/-- The least and the greatest number among some of its sacks. -/
def Pk.il (p : Pk) (n : Int) : Int := if 0 > p.f - (p.s - n) then 0 else p.f - (p.s - n)
def Pk.ih (p : Pk) (n : Int) : Int := if n < p.hi then n else p.hi
theorem c66 {p : Pk} (h : p.Ok) : acall tabA (aexec tabA Try.prog (N + 40)) 66 [.agg ⟨p.enc⟩] H = some (true, .agg ⟨[.int .i64 p.f, .int .i64 p.hi]⟩, H, H.size) := by
 refine call_quiet (k := 17) (rs := [.cell 2 38]) rfl fn_66 rfl rfl rfl ?_ rfl
 obtain ⟨h1, h2, h3, h4⟩ := h
 have w1 : w64 (p.s - p.o) = p.s - p.o := w64_of (by omega)
 have w2 : w64 (p.s - p.o + p.f) = p.s - p.o + p.f := w64_of (by omega)
 have hh : (if p.s - p.o + p.f < p.w then p.s - p.o + p.f else p.w) = p.hi := rfl
 simp (disch:=first|(simp only [yk,seval];done)|omega|(simp only [yz]<;>omega)|fail) only [↓yp,yq0,yq1,yq2,yq3,yq4,yl,ys0,ys1,seval,fitB,newC,endD,endR,Pk.enc,A_min,mm_min,w1,w2,hh,A_build st_bdS_38]
theorem c94 {p : Pk} {n : Int} (h : p.Ok) (hn : 0 ≤ n ∧ n ≤ 6) : acall tabA (aexec tabA Try.prog (N + 80)) 94 [.agg ⟨p.enc⟩, .int .i64 n] H = some (true, .agg ⟨[.int .i64 (p.il n), .int .i64 (p.ih n)]⟩, H, H.size) := by
 refine call_quiet (k := 23) (rs := [.cell 4 38]) rfl fn_94 rfl rfl rfl ?_ rfl
 have h66 := fun (N : Nat) (H : AHeap) => c66 (N := N) (H := H) h
 obtain ⟨h1, h2, h3, h4⟩ := h
 have w1 : w64 (p.s - n) = p.s - n := w64_of (by omega)
 have w2 : w64 (p.f - (p.s - n)) = p.f - (p.s - n) := w64_of (by omega)
 have hl : (if 0 > p.f - (p.s - n) then 0 else p.f - (p.s - n)) = p.il n := rfl
 have hh : (if n < p.hi then n else p.hi) = p.ih n := rfl
 simp only [Pk.enc] at h66
 simp (disch:=first|(simp only [yk,seval];done)|omega|(simp only [yz]<;>omega)|fail) only [↓yp,yq0,yq1,yq2,yq3,yq4,yl,ys0,ys1,seval,fitB,newC,endD,endR,Pk.enc]
 refine W_draw [6, 7] rfl (by kernel_rfl) (by kernel_rfl) (by first|omega|(simp only [yz]<;>omega)) ?_
 simp (disch:=first|(simp only [yk,seval];done)|omega|(simp only [yz]<;>omega)|fail) only [↓yp,yq0,yq1,yq2,yq3,yq4,yl,ys0,ys1,seval,fitB,newC,endD,endR,h66,w1]
 simp (disch:=first|(simp only [yk,seval];done)|omega|(simp only [yz]<;>omega)|fail) only [↓yp,yq0,yq1,yq2,yq3,yq4,yl,ys0,ys1,seval,fitB,newC,endD,endR,A_min,A_max,mm_min,mm_max,w2,hl,hh,A_build st_bdS_38]
theorem c130 {a b : Int} : acall tabA (aexec tabA Try.prog (N + 20)) 130 [.agg ⟨[.int .i64 a, .int .i64 b]⟩] H = some (true, .int .i64 a, H, H.size) := by
 refine call_quiet (k := 5) (rs := [.tmp 2]) rfl fn_130 rfl rfl rfl ?_ rfl
 simp (disch:=first|(simp only [yk,seval];done)|omega|(simp only [yz]<;>omega)|fail) only [↓yp,yq0,yq1,yq2,yq3,yq4,yl,ys0,ys1,seval,fitB,newC,endD,endR]
theorem c115 {a b : Int} : acall tabA (aexec tabA Try.prog (N + 20)) 115 [.agg ⟨[.int .i64 a, .int .i64 b]⟩] H = some (true, .int .i64 b, H, H.size) := by
 refine call_quiet (k := 5) (rs := [.tmp 2]) rfl fn_115 rfl rfl rfl ?_ rfl
 simp (disch:=first|(simp only [yk,seval];done)|omega|(simp only [yz]<;>omega)|fail) only [↓yp,yq0,yq1,yq2,yq3,yq4,yl,ys0,ys1,seval,fitB,newC,endD,endR]
end Go.Am
/- Sums of numbers; the size of a lot. -/
namespace Go.Am
open Go.Proofs
variable {T : Tab} {P : Program} {N L : Nat} {H : AHeap} {Q : Bool → Value → AHeap → Prop}
theorem A_all {ty : TypeId} {x : Operand} {len z : Nat} {ex : Exec} {t : Operand → Option Value} (hz : arS T ty = some (len, z)) (hlen : len < OPEN) (hpos : 0 < len) : A T P ex t H L (.slice ty x none none none) Q = optK (t x) fun v => ptrK v fun b o => andK (L ≤ H.size) (Q true (.slice (some ⟨b, o, none⟩) len len) H) := by
 unfold A
 show (match still (aSlice T t H ty x none none none) with
  | some (b, v, H', m) => L ≤ m ∧ Q b v H'
  | none => False) = _
 unfold arS at hz
 unfold aSlice
 cases hu : T.und ty with
 | none => rw [hu] at hz; cases hz
 | some d =>
  cases d with
  | array ln el =>
   rw [hu] at hz
   simp only at hz
   cases hi : T.inf el with
   | none => rw [hi] at hz; cases hz
   | some i =>
    rw [hi] at hz
    cases hz
    have hab : abounds len len none none none = some (0, len, len) := by
     delta abounds
     simp
    have hne : Nat.beq len 0 = false := beq_ne (by omega)
    cases t x with
    | none => rfl
    | some v =>
     cases v with
     | pointer a =>
      cases a with
      | none => rfl
      | some a =>
       simp only [abound,hi,hab,blt_true hlen,cond_true,Nat.sub_zero,hne,cond_false,Nat.zero_mul,Nat.add_zero]
       rfl
     | slice a l c => cases a <;> rfl
     | _ => rfl
  | _ => rw [hu] at hz; cases hz
theorem st_arS_119 : arS tabA 119 = some (4, 1) := by kernel_rfl
def isum : List Int → Int
 | [] => 0
 | x :: l => x + isum l
theorem isum_app : ∀ l l' : List Int, isum (l ++ l') = isum l + isum l'
 | [], l' => by show isum l' = 0 + isum l'; omega
 | x :: l, l' => by
  show x + isum (l ++ l') = x + isum l + isum l'
  rw [isum_app l l']; omega
theorem isum_le : ∀ {l : List Int} {m : Int}, (∀ x ∈ l, 0 ≤ x ∧ x ≤ m) → 0 ≤ isum l ∧ isum l ≤ m * l.length
 | [], m, _ => by simp [isum]
 | x :: l, m, h => by
  have h1 := h x (by simp)
  have h2 := isum_le (l := l) (m := m) fun y hy => h y (by simp [hy])
  rw [List.length_cons, isum, Int.natCast_add, Int.mul_add]
  omega
theorem c103 {a : Option Addr} {cap : Nat} {t : List Int} (hs : Rw intE H a t) (hl : t.length ≤ 64) (hb : ∀ x ∈ t, 0 ≤ x ∧ x ≤ 1000000) :
  acall tabA (aexec tabA Try.prog (N + 150)) 103 [.slice a t.length cap] H = some (true, .int .i64 (isum t), H, H.size) := by
 refine call_quiet (k := 17) (rs := [.tmp 2]) rfl fn_103 rfl rfl rfl ?_ rfl
 simp (disch:=first|(simp only [yk,seval];done)|omega|(simp only [yz]<;>omega)|fail) only [↓yp,yq0,yq1,yq2,yq3,yq4,yl,ys0,ys1,seval,fitB,newC,endD,endR,lenV_slice st_esS_49]
 refine W_while (n := 17) 40 (fun k e H' => ∃ i : Nat, k = t.length - i ∧ i ≤ t.length ∧ gt 17 e 8 = .int .i64 (i : Nat) ∧ gt 17 e 7 = .int .i64 t.length ∧ gt 17 e 6 = .slice a t.length cap ∧ gt 17 e 3 = .int .i64 (isum (t.take i)) ∧ H' = H)
  ?_ 64 t.length ⟨0, by omega, by omega, by simp (disch:=first|(simp only [yk,seval];done)|omega|(simp only [yz]<;>omega)|fail) only [yg,Nat.reduceAdd,Nat.reduceEqDiff,Nat.reduceLT]; rfl, by simp (disch:=first|(simp only [yk,seval];done)|omega|(simp only [yz]<;>omega)|fail) only [yg,Nat.reduceAdd,Nat.reduceEqDiff,Nat.reduceLT], by simp (disch:=first|(simp only [yk,seval];done)|omega|(simp only [yz]<;>omega)|fail) only [yg,Nat.reduceAdd,Nat.reduceEqDiff,Nat.reduceLT], by simp (disch:=first|(simp only [yk,seval];done)|omega|(simp only [yz]<;>omega)|fail) only [yg,Nat.reduceAdd,Nat.reduceEqDiff,Nat.reduceLT]; rfl, rfl⟩ (by omega) (by omega)
 rintro M k e H' ⟨i, rfl, hi, g8, g7, g6, g3, rfl⟩
 simp (disch:=first|(simp only [yk,seval];done)|omega|(simp only [yz]<;>omega)|fail) only [↓yp,yq0,yq1,yq2,yq3,yq4,yl,ys0,ys1,seval,fitB,newC,endD,endR,g8,g7]
 refine ⟨fun hA => ?_, fun hA => ?_⟩
 ·have hi' : i < t.length := by simpa using hA
  obtain ⟨v, hv⟩ : ∃ v, t[i]? = some v := ⟨t[i], by simp [hi']⟩
  obtain ⟨b, o, c, rfl, hb', hc, hp⟩ := hs.at_ hv
  have q := cell_of hp
  rw [show i * intE.z = i * 1 from rfl, Nat.mul_one] at q
  have hv2 := hb v (List.mem_of_getElem? hv)
  have hs1 := isum_le (l := t.take i) (m := 1000000) fun x hx => hb x (List.mem_of_mem_take hx)
  have hl1 : (t.take i).length ≤ 64 := by rw [List.length_take]; omega
  have e1 : isum (t.take i) + v = isum (t.take (i + 1)) := by
   rw [List.take_add_one, hv, isum_app]; show _ = _ + (v + 0); omega
  have hw : w64 (isum (t.take i) + v) = isum (t.take (i + 1)) := by rw [w64_of (by omega), e1]
  have hw2 : w64 ((i : Int) + 1) = ((i + 1 : Nat) : Int) := by rw [w64_of (by omega)]; omega
  simp (disch:=first|(simp only [yk,seval];done)|omega|(simp only [yz]<;>omega)|fail) only [↓yp,yq0,yq1,yq2,yq3,yq4,yl,ys0,ys1,seval,fitB,newC,endD,endR,g8,g7,g6,g3,A_indexSlice st_esS_49,hc,q,hw,hw2]
  exact ⟨t.length - (i + 1), by omega, i + 1, rfl, by omega, by simp (disch:=first|(simp only [yk,seval];done)|omega|(simp only [yz]<;>omega)|fail) only [yg,Nat.reduceAdd,Nat.reduceEqDiff,Nat.reduceLT], by simp (disch:=first|(simp only [yk,seval];done)|omega|(simp only [yz]<;>omega)|fail) only [yg,Nat.reduceAdd,Nat.reduceEqDiff,Nat.reduceLT,g7], by simp (disch:=first|(simp only [yk,seval];done)|omega|(simp only [yz]<;>omega)|fail) only [yg,Nat.reduceAdd,Nat.reduceEqDiff,Nat.reduceLT,g6], by simp (disch:=first|(simp only [yk,seval];done)|omega|(simp only [yz]<;>omega)|fail) only [yg,Nat.reduceAdd,Nat.reduceEqDiff,Nat.reduceLT], rfl⟩
 ·have hi' : i = t.length := by
   have : ¬ ((i : Int) < t.length) := by simpa using hA
   omega
  subst hi'
  rw [List.take_length] at g3
  simp (disch:=first|(simp only [yk,seval];done)|omega|(simp only [yz]<;>omega)|fail) only [↓yp,yq0,yq1,yq2,yq3,yq4,yl,ys0,ys1,seval,fitB,newC,endD,endR,g3]
theorem fl_int : ∀ t : List Int, intE.fl t = tv t
 | [] => rfl
 | x :: t => by show [Value.int .i64 x] ++ intE.fl t = .int .i64 x :: tv t; rw [fl_int t]; rfl
theorem Rw.int {b : Nat} {t : List Int} (hb : b < H.size) (h : cellsOf (H.get b) = some (tv t)) : Rw intE H (some ⟨b, 0, none⟩) t := Rw.of (r := []) hb h (by rw [List.append_nil, fl_int])
theorem c76 {t : List Int} (hl : t.length = 4) (hb : ∀ x ∈ t, 0 ≤ x ∧ x ≤ 1000000) : acall tabA (aexec tabA Try.prog (N + 200)) 76 [.agg ⟨tv t⟩] H = some (true, .int .i64 (isum t), H, H.size) := by
 refine call_quiet (k := 5) (rs := [.tmp 2]) rfl fn_76 rfl rfl rfl ?_ rfl
 obtain ⟨a, b, c, d, rfl⟩ : ∃ a b c d : Int, t = [a, b, c, d] := by
  match t, hl with
  | [a, b, c, d], _ => exact ⟨a, b, c, d, rfl⟩
 have h103 := fun (N : Nat) => c103 (N := N) (H := H.alloc (.rw (tv [a, b, c, d]) 119 false [])) (cap := 4) (Rw.int (b := H.size) (by simp) (by rw [get_alloc_eq rfl]; rfl)) (by simp) hb
 simp only [tv,List.map_cons,List.map_nil,List.length_cons,List.length_nil,Nat.zero_add,Nat.reduceAdd] at h103
 simp (disch:=first|(simp only [yk,seval];done)|omega|(simp only [yz]<;>omega)|fail) only [↓yp,yq0,yq1,yq2,yq3,yq4,yl,ys0,ys1,seval,fitB,newC,endD,endR,tv,A_all st_arS_119 (by unfold OPEN; omega) (by omega),h103]
end Go.Am
/- How many foul sacks a lot has. -/
namespace Go.Am
open Go.Proofs
variable {T : Tab} {P : Program} {N L : Nat} {H : AHeap} {Q : Bool → Value → AHeap → Prop}
/-- One end of a span. -/
def Pk.sel (s : Bool) (p : Pk) (n : Int) : Int := bif s then p.il n else p.ih n
/-- The foul sacks of a lot, by pickings. -/
def fo (s : Bool) : List Pk → List Int → List Int
 | p :: ps, n :: m => p.sel s n :: fo s ps m
 | _, _ => []
theorem fo_len {s : Bool} : ∀ {ps : List Pk} {m : List Int}, ps.length ≤ m.length → (fo s ps m).length = ps.length
 | [], m, _ => by simp [fo]
 | p :: ps, [], h => by simp at h
 | p :: ps, n :: m, h => by
  simp only [fo,List.length_cons]
  rw [fo_len (by simpa using h)]
theorem fo_get {s : Bool} : ∀ {ps : List Pk} {m : List Int} {i : Nat} {p : Pk} {n : Int}, ps[i]? = some p → m[i]? = some n → (fo s ps m)[i]? = some (p.sel s n)
 | [], m, i, p, n, h, _ => by simp at h
 | q :: ps, [], i, p, n, _, h => by simp at h
 | q :: ps, k :: m, 0, p, n, h, h' => by
  simp only [List.getElem?_cons_zero,Option.some.injEq] at h h'
  subst h h'; rfl
 | q :: ps, k :: m, i + 1, p, n, h, h' => by
  simp only [fo,List.getElem?_cons_succ] at h h' ⊢
  exact fo_get h h'
theorem sel_le {s : Bool} {p : Pk} {n : Int} (h : p.Ok) (hn : 0 ≤ n ∧ n ≤ 6) : 0 ≤ p.sel s n ∧ p.sel s n ≤ 12 := by
 obtain ⟨h1, h2, h3, h4⟩ := h
 cases s
 ·show 0 ≤ p.ih n ∧ p.ih n ≤ 12
  unfold Pk.ih Pk.hi
  repeat' split
  all_goals omega
 ·show 0 ≤ p.il n ∧ p.il n ≤ 12
  unfold Pk.il
  split <;> omega
theorem fo_mem {s : Bool} {x : Int} : ∀ {ps : List Pk} {m : List Int}, (∀ p ∈ ps, p.Ok) → (∀ n ∈ m, 0 ≤ n ∧ n ≤ 6) → x ∈ fo s ps m → 0 ≤ x ∧ x ≤ 12
 | [], m, _, _, h => by simp [fo] at h
 | q :: ps, [], _, _, h => by simp [fo] at h
 | q :: ps, k :: m, h1, h2, h => by
  simp only [fo,List.mem_cons] at h
  rcases h with rfl | h
  ·exact sel_le (h1 _ (by simp)) (h2 _ (by simp))
  ·exact fo_mem (fun p hp => h1 p (by simp [hp])) (fun n hn => h2 n (by simp [hn])) h
/-- An array of four of which the first ones are filled. -/
def pt (l : List Int) (i : Nat) : List Int := l.take i ++ List.replicate (4 - i) 0
theorem pt_len {l : List Int} {i : Nat} (h : i ≤ l.length) (h4 : l.length ≤ 4) : (pt l i).length = 4 := by
 unfold pt
 rw [List.length_append, List.length_take, List.length_replicate]; omega
theorem pt_next {l : List Int} {i : Nat} {v : Int} (h : l[i]? = some v) (h4 : l.length ≤ 4) : (pt l i).set i v = pt l (i + 1) := by
 have hi := (List.getElem?_eq_some_iff.1 h).1
 have hl : (l.take i).length = i := by rw [List.length_take]; omega
 unfold pt
 rw [List.set_append_right _ _ (by omega), hl, Nat.sub_self, List.take_add_one, h, show 4 - i = (4 - (i + 1)) + 1 by omega, List.replicate_succ, List.set_cons_zero, List.append_assoc]
 rfl
theorem isum_rep : ∀ n : Nat, isum (List.replicate n 0) = 0
 | 0 => rfl
 | n + 1 => by rw [List.replicate_succ, isum, isum_rep n]; rfl
theorem isum_pt {l : List Int} : isum (pt l l.length) = isum l := by
 unfold pt
 rw [isum_app, isum_rep, List.take_length]; omega
def endF (s : Bool) : Nat := bif s then 130 else 115
theorem c_end {s : Bool} {a b : Int} : acall tabA (aexec tabA Try.prog (N + 20)) (endF s) [.agg ⟨[.int .i64 a, .int .i64 b]⟩] H = some (true, .int .i64 (bif s then a else b), H, H.size) := by
 cases s
 ·exact c115
 ·exact c130
theorem tv_at {t : List Int} {i : Nat} {n : Int} (h : t[i]? = some n) : (tv t)[i]? = some (.int .i64 n) := by
 unfold tv
 rw [List.getElem?_map, h]; rfl
set_option maxHeartbeats 1000000 in
theorem c78 {s : Bool} {a : Option Addr} {cap : Nat} {ps : List Pk} {m : List Int} {g lo mp : Value} (hs : Rw pkE H a ps) (hl : ps.length ≤ 4) (hk : ∀ p ∈ ps, p.Ok) (hm : m.length = 4) (hb : ∀ n ∈ m, 0 ≤ n ∧ n ≤ 6) :
  acall tabA (aexec tabA Try.prog (N + 300)) 78 [.agg ⟨[.slice a ps.length cap, g, lo, mp]⟩, .agg ⟨tv m⟩, .agg ⟨[.func (.func (endF s)) ⟨[]⟩ ⟨[]⟩]⟩] H = some (true, .int .i64 (isum (fo s ps m)), H, H.size) := by
 refine call_quiet (k := 32) (rs := [.tmp 6]) rfl fn_78 rfl rfl rfl ?_ rfl
 have hfl := fo_len (s := s) (ps := ps) (m := m) (by omega)
 have hf0 : [.int .i64 0, .int .i64 0, .int .i64 0, .int .i64 0] = tv (pt (fo s ps m) 0) := rfl
 simp (disch:=first|(simp only [yk,seval];done)|omega|(simp only [yz]<;>omega)|fail) only [↓yp,yq0,yq1,yq2,yq3,yq4,yl,ys0,ys1,seval,fitB,newC,endD,endR,lenV_slice st_esS_22,hf0]
 refine W_while (n := 32) 160 (fun k e H' => ∃ i : Nat, k = ps.length - i ∧ i ≤ ps.length ∧ gt 32 e 14 = .int .i64 (i : Nat) ∧ gt 32 e 13 = .int .i64 ps.length ∧ gt 32 e 12 = .slice a ps.length cap ∧ gt 32 e 4 = .pointer (some ⟨H.size + 1, 0, none⟩) ∧ gt 32 e 5 = .pointer (some ⟨H.size + 1 + 1, 0, none⟩) ∧ gt 32 e 7 = .pointer (some ⟨H.size + 1 + 1 + 1, 0, none⟩) ∧ Fr H H' ∧ H.size + 1 + 1 + 1 < H'.size ∧
   H'.get (H.size + 1) = .rw (tv m) 119 false [] ∧ H'.get (H.size + 1 + 1) = .rw [.func (.func (endF s)) ⟨[]⟩ ⟨[]⟩] 129 false [] ∧ H'.get (H.size + 1 + 1 + 1) = .rw (tv (pt (fo s ps m) i)) 119 false [])
  ?_ 4 ps.length ⟨0, by omega, by omega, by simp (disch:=first|(simp only [yk,seval];done)|omega|(simp only [yz]<;>omega)|fail) only [yg,Nat.reduceAdd,Nat.reduceEqDiff,Nat.reduceLT]; rfl, by simp (disch:=first|(simp only [yk,seval];done)|omega|(simp only [yz]<;>omega)|fail) only [yg,Nat.reduceAdd,Nat.reduceEqDiff,Nat.reduceLT], by simp (disch:=first|(simp only [yk,seval];done)|omega|(simp only [yz]<;>omega)|fail) only [yg,Nat.reduceAdd,Nat.reduceEqDiff,Nat.reduceLT], by simp (disch:=first|(simp only [yk,seval];done)|omega|(simp only [yz]<;>omega)|fail) only [yg,Nat.reduceAdd,Nat.reduceEqDiff,Nat.reduceLT], by simp (disch:=first|(simp only [yk,seval];done)|omega|(simp only [yz]<;>omega)|fail) only [yg,Nat.reduceAdd,Nat.reduceEqDiff,Nat.reduceLT], by simp (disch:=first|(simp only [yk,seval];done)|omega|(simp only [yz]<;>omega)|fail) only [yg,Nat.reduceAdd,Nat.reduceEqDiff,Nat.reduceLT], by (repeat (first | exact Fr.refl _ | assumption | refine Fr.allocd ?_ _ | refine Fr.kill ?_ (by first | assumption | omega) | refine Fr.put ?_ (by first | omega | (simp only [yz] <;> omega)) _)), by (first | omega | (simp only [yz] <;> omega)), by simp (disch:=first|(simp only [yk,seval];done)|omega|(simp only [yz]<;>omega)|fail) only [yg,Nat.reduceAdd,Nat.reduceEqDiff,Nat.reduceLT], by simp (disch:=first|(simp only [yk,seval];done)|omega|(simp only [yz]<;>omega)|fail) only [yg,Nat.reduceAdd,Nat.reduceEqDiff,Nat.reduceLT], by simp (disch:=first|(simp only [yk,seval];done)|omega|(simp only [yz]<;>omega)|fail) only [yg,Nat.reduceAdd,Nat.reduceEqDiff,Nat.reduceLT]⟩ (by omega) (by omega)
 rintro M k e H' ⟨i, rfl, hi, g14, g13, g12, g4, g5, g7, fr, hlt, b1, b2, b3⟩
 have f0 := fr.size
 have fs := fr.same
 simp (disch:=first|(simp only [yk,seval];done)|omega|(simp only [yz]<;>omega)|fail) only [↓yp,yq0,yq1,yq2,yq3,yq4,yl,ys0,ys1,seval,fitB,newC,endD,endR,g14,g13]
 refine ⟨fun hA => ?_, fun hA => ?_⟩
 ·have hi' : i < ps.length := by simpa using hA
  obtain ⟨p, hp⟩ : ∃ p, ps[i]? = some p := ⟨ps[i], by simp [hi']⟩
  obtain ⟨n, hn⟩ : ∃ n, m[i]? = some n := ⟨m[i]'(by omega), by simp [show i < m.length by omega]⟩
  obtain ⟨b, o, c, rfl, hb1, hc, hq⟩ := hs.at_ hp
  have q : part c (o + i * 4) 5 = some (.agg ⟨Pk.enc p⟩) := part_of hq rfl
  have hc' : cellsOf (H'.get b) = some c := by rw [fs b hb1]; exact hc
  have hpo := hk p (List.mem_of_getElem? hp)
  have hno := hb n (List.mem_of_getElem? hn)
  have h94 := fun (N : Nat) (H : AHeap) => c94 (N := N) (H := H) hpo hno
  have hce := fun (N : Nat) (H : AHeap) => c_end (N := N) (H := H) (s := s) (a := p.il n) (b := p.ih n)
  have hfg := fo_get (s := s) hp hn
  have hnx := pt_next hfg (by omega)
  have hpl : (tv (pt (fo s ps m) i)).length = 4 := by rw [tv_len, pt_len (by omega) (by omega)]
  have hfit : decide (i ≤ 3) = true := by simp; omega
  have hset : newC i [.int .i64 (bif s then p.il n else p.ih n)] (tv (pt (fo s ps m) i)) = tv (pt (fo s ps m) (i + 1)) := by
   rw [newC_tv (by rw [pt_len (by omega) (by omega)]; omega), ← hnx]; rfl
  have hmi := tv_at hn
  have hw2 : w64 ((i : Int) + 1) = ((i + 1 : Nat) : Int) := by rw [w64_of (by omega)]; omega
  simp only [Pk.enc] at q h94
  simp (disch:=first|(simp only [yk,seval];done)|omega|(simp only [yz]<;>omega)|fail) only [↓yp,yq0,yq1,yq2,yq3,yq4,yl,ys0,ys1,seval,fitB,newC,endD,endR,g14,g13,g12,A_indexSlice st_esS_22,hc',q]
  refine W_draw [10] rfl (by kernel_rfl) (by kernel_rfl) (by first|omega|(simp only [yz]<;>omega)) ?_
  simp (disch:=first|(simp only [yk,seval];done)|omega|(simp only [yz]<;>omega)|fail) only [↓yp,yq0,yq1,yq2,yq3,yq4,yl,ys0,ys1,seval,fitB,newC,endD,endR,g14,g13,g12,g4,g5,g7,b1,b2,b3,A_indexArr st_arS_119,hmi,h94,hce,hpl,hfit,hset,hw2]
  refine ⟨ps.length - (i + 1), by omega, i + 1, rfl, by omega, ?_, ?_, ?_, ?_, ?_, ?_, by (repeat (first | exact Fr.refl _ | assumption | refine Fr.allocd ?_ _ | refine Fr.kill ?_ (by first | assumption | omega) | refine Fr.put ?_ (by first | omega | (simp only [yz] <;> omega)) _)), by (first | omega | (simp only [yz] <;> omega)), ?_, ?_, ?_⟩
  ·simp (disch:=first|(simp only [yk,seval];done)|omega|(simp only [yz]<;>omega)|fail) only [yg,Nat.reduceAdd,Nat.reduceEqDiff,Nat.reduceLT]
  ·simp (disch:=first|(simp only [yk,seval];done)|omega|(simp only [yz]<;>omega)|fail) only [yg,Nat.reduceAdd,Nat.reduceEqDiff,Nat.reduceLT,g13]
  ·simp (disch:=first|(simp only [yk,seval];done)|omega|(simp only [yz]<;>omega)|fail) only [yg,Nat.reduceAdd,Nat.reduceEqDiff,Nat.reduceLT,g12]
  ·simp (disch:=first|(simp only [yk,seval];done)|omega|(simp only [yz]<;>omega)|fail) only [yg,Nat.reduceAdd,Nat.reduceEqDiff,Nat.reduceLT,g4]
  ·simp (disch:=first|(simp only [yk,seval];done)|omega|(simp only [yz]<;>omega)|fail) only [yg,Nat.reduceAdd,Nat.reduceEqDiff,Nat.reduceLT,g5]
  ·simp (disch:=first|(simp only [yk,seval];done)|omega|(simp only [yz]<;>omega)|fail) only [yg,Nat.reduceAdd,Nat.reduceEqDiff,Nat.reduceLT,g7]
  ·simp (disch:=first|(simp only [yk,seval];done)|omega|(simp only [yz]<;>omega)|fail) only [yg,Nat.reduceAdd,Nat.reduceEqDiff,Nat.reduceLT,b1]
  ·simp (disch:=first|(simp only [yk,seval];done)|omega|(simp only [yz]<;>omega)|fail) only [yg,Nat.reduceAdd,Nat.reduceEqDiff,Nat.reduceLT,b2]
  ·simp (disch:=first|(simp only [yk,seval];done)|omega|(simp only [yz]<;>omega)|fail) only [yg,Nat.reduceAdd,Nat.reduceEqDiff,Nat.reduceLT]
   rw [← hset]; rfl
 ·have hi' : i = ps.length := by have := of_decide_eq_false hA; omega
  subst hi'
  rw [← hfl] at b3
  have h76 := fun (N : Nat) (H : AHeap) => c76 (N := N) (H := H) (t := pt (fo s ps m) (fo s ps m).length) (pt_len (by omega) (by omega)) (by
   intro x hx
   unfold pt at hx
   rw [List.take_length] at hx
   rcases List.mem_append.1 hx with hx | hx
   ·have := fo_mem hk hb hx; omega
   ·have := List.eq_of_mem_replicate hx; omega)
  rw [isum_pt] at h76
  have hpart : part (tv (pt (fo s ps m) (fo s ps m).length)) 0 5 = some (.agg ⟨tv (pt (fo s ps m) (fo s ps m).length)⟩) := part_tv (pt_len (by omega) (by omega))
  simp (disch:=first|(simp only [yk,seval];done)|omega|(simp only [yz]<;>omega)|fail) only [↓yp,yq0,yq1,yq2,yq3,yq4,yl,ys0,ys1,seval,fitB,newC,endD,endR,g7,b3,hpart,h76]
theorem c79 : acall tabA (aexec tabA Try.prog (N + 20)) 79 [] H = some (true, .agg ⟨[.func (.func (endF false)) ⟨[]⟩ ⟨[]⟩]⟩, H, H.size) := by
 refine call_quiet (k := 2) (rs := [.cell 0 129]) rfl fn_79 rfl rfl rfl ?_ rfl
 simp (disch:=first|(simp only [yk,seval];done)|omega|(simp only [yz]<;>omega)|fail) only [↓yp,yq0,yq1,yq2,yq3,yq4,yl,ys0,ys1,seval,fitB,newC,endD,endR,A_build st_bdS_129]
 rfl
theorem sl_tv {n : Nat} : ∀ t : List Int, sameL (sameV (n + 1)) (tv t) (tv t) = true
 | [] => rfl
 | x :: t => by
  show (sameV (n + 1) (.int .i64 x) (.int .i64 x) && sameL (sameV (n + 1)) (tv t) (tv t)) = true
  rw [sv_int, sl_tv t]; rfl
/-- What can surely be said of a lot. -/
theorem c120 {a : Option Addr} {cap : Nat} {ps : List Pk} {m : List Int} {g lo mp : Value} (hs : Rw pkE H a ps) (hl : ps.length ≤ 4) (hk : ∀ p ∈ ps, p.Ok) (hm : m.length = 4) (hb : ∀ n ∈ m, 0 ≤ n ∧ n ≤ 6)
  (hg : sameV 5 g g = true) (ho : sameV 5 lo lo = true) (hp : sameV 5 mp mp = true) :
  acall tabA (aexec tabA Try.prog (N + 400)) 120 [.agg ⟨[.slice a ps.length cap, g, lo, mp]⟩, .agg ⟨tv m⟩] H = some (true, .agg ⟨[.int .i64 (isum m), .int .i64 (isum (fo false ps m))]⟩, H, H.size) := by
 refine call_quiet (k := 12) (rs := [.cell 4 170]) rfl fn_120 rfl rfl rfl ?_ rfl
 have hmp : part (tv m) 0 5 = some (.agg ⟨tv m⟩) := part_tv hm
 have hst := fun n => sl_tv (n := n) m
 have h76 := fun (N : Nat) (H : AHeap) => c76 (N := N) (H := H) (t := m) hm fun x hx => by have := hb x hx; omega
 have h79 := fun (N : Nat) (H : AHeap) => c79 (N := N) (H := H)
 have h78 := fun (N : Nat) => c78 (N := N) (s := false) (g := g) (lo := lo) (mp := mp) (cap := cap) (hs.fr (H' := ((H.alloc (.rw [.slice a ps.length cap, g, lo, mp] 124 false [])).alloc (.rw (tv m) 119 false [])).alloc (.rw [.int .i64 0, .int .i64 0] 170 false [])) (by (repeat (first | exact Fr.refl _ | assumption | refine Fr.allocd ?_ _ | refine Fr.kill ?_ (by first | assumption | omega) | refine Fr.put ?_ (by first | omega | (simp only [yz] <;> omega)) _)))) hl hk hm hb
 have h78' := fun (N : Nat) (x y : Value) => c78 (N := N) (s := false) (g := g) (lo := lo) (mp := mp) (cap := cap) (hs.fr (H' := (((H.alloc (.rw [.slice a ps.length cap, g, lo, mp] 124 false [])).alloc (.rw (tv m) 119 false [])).alloc (.rw [.int .i64 0, .int .i64 0] 170 false [])).put (H.size + 1 + 1) (.rw [x, y] 170 false [])) (by (repeat (first | exact Fr.refl _ | assumption | refine Fr.allocd ?_ _ | refine Fr.kill ?_ (by first | assumption | omega) | refine Fr.put ?_ (by first | omega | (simp only [yz] <;> omega)) _)))) hl hk hm hb
 simp (disch:=first|(simp only [yk,seval];done)|omega|(simp only [yz]<;>omega)|fail) only [↓yp,yq0,yq1,yq2,yq3,yq4,yl,ys0,ys1,seval,fitB,newC,endD,endR]
 refine W_draw [7] rfl (by kernel_rfl) (by kernel_rfl) (by first|omega|(simp only [yz]<;>omega)) ?_
 simp (disch:=first|(simp only [yk,seval];done)|omega|(simp only [yz]<;>omega)|fail) only [↓yp,yq0,yq1,yq2,yq3,yq4,yl,ys0,ys1,seval,fitB,newC,endD,endR,hmp,h76,h79,h78,h78',A_build st_bdS_170,hst,hg,ho,hp]
end Go.Am
