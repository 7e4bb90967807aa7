import Derived.Test.YtbofjfjopeaefaaGreatT14
import Derived.Test.YtbofjfjopeaefaaGreatT10
set_option linter.unusedSimpArgs false
set_option linter.unusedVariables false
namespace Go.Am
open Go.Proofs
variable {T : Tab} {P : Program} {N L : Nat} {H : AHeap} {Q : Bool → Value → AHeap → Prop}
structure Pk where
 s : Int
 w : Int
 o : Int
 f : Int
def Pk.enc (p : Pk) : List Value := [.int .i64 p.s, .int .i64 p.w, .int .i64 p.o, .int .i64 p.f]
def pkE : Enc Pk := ⟨Pk.enc, 4, fun _ => rfl, fun _ => rfl⟩
structure Gd where
 fo : Int
 pr : Int
def Gd.enc (g : Gd) : List Value := [.int .i64 g.fo, .int .i64 g.pr]
def gdE : Enc Gd := ⟨Gd.enc, 2, fun _ => rfl, fun _ => rfl⟩
structure Pk.Ok (p : Pk) : Prop where
 s : 0 ≤ p.s ∧ p.s ≤ 6
 w : 0 ≤ p.w ∧ p.w ≤ p.s
 o : 0 ≤ p.o ∧ p.o ≤ p.s
 f : 0 ≤ p.f ∧ p.f ≤ p.o
def Pk.hi (p : Pk) : Int := if p.s - p.o + p.f < p.w then p.s - p.o + p.f else p.w
def Pk.il (p : Pk) (n : Int) : Int := if 0 > p.f - (p.s - n) then 0 else p.f - (p.s - n)
def Pk.ih (p : Pk) (n : Int) : Int := if n < p.hi then n else p.hi
theorem c66 {p : Pk} (h : p.Ok) : acall tabA (aexec tabA Tryz.prog (N + 40)) 69 [.agg ⟨p.enc⟩] H = some (true, .agg ⟨[.int .i64 p.f, .int .i64 p.hi]⟩, H, H.size) := by
 refine call_quiet (k := 17) (rs := [.cell 2 37]) rfl fn_69 rfl rfl rfl ?_ rfl
 obtain ⟨h1, h2, h3, h4⟩ := h
 have w1 : w64 (p.s - p.o) = p.s - p.o := w64_of (by omega)
 have w2 : w64 (p.s - p.o + p.f) = p.s - p.o + p.f := w64_of (by omega)
 have hh : (if p.s - p.o + p.f < p.w then p.s - p.o + p.f else p.w) = p.hi := rfl
 simp (disch:=first|(simp only [yk,seval];done)|omega|(simp only [yz]<;>omega)|fail) only [↓yp,yA,ys0,ys1,seval,fitB,newC,endD,endR,Pk.enc,A_min,mm_min,w1,w2,hh,A_build st_bdS_37]
theorem c94 {p : Pk} {n : Int} (h : p.Ok) (hn : 0 ≤ n ∧ n ≤ 6) : acall tabA (aexec tabA Tryz.prog (N + 80)) 70 [.agg ⟨p.enc⟩, .int .i64 n] H = some (true, .agg ⟨[.int .i64 (p.il n), .int .i64 (p.ih n)]⟩, H, H.size) := by
 refine call_quiet (k := 23) (rs := [.cell 4 37]) rfl fn_70 rfl rfl rfl ?_ rfl
 have h66 := fun (N : Nat) (H : AHeap) => c66 (N := N) (H := H) h
 obtain ⟨h1, h2, h3, h4⟩ := h
 have w1 : w64 (p.s - n) = p.s - n := w64_of (by omega)
 have w2 : w64 (p.f - (p.s - n)) = p.f - (p.s - n) := w64_of (by omega)
 have hl : (if 0 > p.f - (p.s - n) then 0 else p.f - (p.s - n)) = p.il n := rfl
 have hh : (if n < p.hi then n else p.hi) = p.ih n := rfl
 simp only [Pk.enc] at h66
 simp (disch:=first|(simp only [yk,seval];done)|omega|(simp only [yz]<;>omega)|fail) only [↓yp,yA,ys0,ys1,seval,fitB,newC,endD,endR,Pk.enc]
 refine W_draw [6, 7] rfl (by kernel_rfl) (by kernel_rfl) (by first|omega|(simp only [yz]<;>omega)) ?_
 simp (disch:=first|(simp only [yk,seval];done)|omega|(simp only [yz]<;>omega)|fail) only [↓yp,yA,ys0,ys1,seval,fitB,newC,endD,endR,h66,w1]
 simp (disch:=first|(simp only [yk,seval];done)|omega|(simp only [yz]<;>omega)|fail) only [↓yp,yA,ys0,ys1,seval,fitB,newC,endD,endR,A_min,A_max,mm_min,mm_max,w2,hl,hh,A_build st_bdS_37]
theorem c130 {a b : Int} : acall tabA (aexec tabA Tryz.prog (N + 20)) 169 [.agg ⟨[.int .i64 a, .int .i64 b]⟩] H = some (true, .int .i64 a, H, H.size) := by
 refine call_quiet (k := 5) (rs := [.tmp 2]) rfl fn_169 rfl rfl rfl ?_ rfl
 simp (disch:=first|(simp only [yk,seval];done)|omega|(simp only [yz]<;>omega)|fail) only [↓yp,yA,ys0,ys1,seval,fitB,newC,endD,endR]
theorem c115 {a b : Int} : acall tabA (aexec tabA Tryz.prog (N + 20)) 140 [.agg ⟨[.int .i64 a, .int .i64 b]⟩] H = some (true, .int .i64 b, H, H.size) := by
 refine call_quiet (k := 5) (rs := [.tmp 2]) rfl fn_140 rfl rfl rfl ?_ rfl
 simp (disch:=first|(simp only [yk,seval];done)|omega|(simp only [yz]<;>omega)|fail) only [↓yp,yA,ys0,ys1,seval,fitB,newC,endD,endR]
end Go.Am
namespace Go.Am
open Go.Proofs
variable {T : Tab} {P : Program} {N L : Nat} {H : AHeap} {Q : Bool → Value → AHeap → Prop}
theorem A_all {ty : TypeId} {x : Operand} {len z : Nat} {ex : Exec} {t : Operand → Option Value} (hz : arS T ty = some (len, z)) (hlen : len < OPEN) (hpos : 0 < len) : A T P ex t H L (.slice ty x none none none) Q = optK (t x) fun v => ptrK v fun b o => andK (L ≤ H.size) (Q true (.slice (some ⟨b, o, none⟩) len len) H) := by
 unfold A
 show (match still (aSlice T t H ty x none none none) with
  | some (b, v, H', m) => L ≤ m ∧ Q b v H'
  | none => False) = _
 unfold arS at hz
 unfold aSlice
 cases hu : T.und ty with
 | none => rw [hu] at hz; cases hz
 | some d =>
  cases d with
  | array ln el =>
   rw [hu] at hz
   simp only at hz
   cases hi : T.inf el with
   | none => rw [hi] at hz; cases hz
   | some i =>
    rw [hi] at hz
    cases hz
    have hab : abounds len len none none none = some (0, len, len) := by
     delta abounds
     simp
    have hne : Nat.beq len 0 = false := beq_ne (by omega)
    cases t x with
    | none => rfl
    | some v =>
     cases v with
     | pointer a =>
      cases a with
      | none => rfl
      | some a =>
       simp only [abound,hi,hab,blt_true hlen,cond_true,Nat.sub_zero,hne,cond_false,Nat.zero_mul,Nat.add_zero]
       rfl
     | slice a l c => cases a <;> rfl
     | _ => rfl
  | _ => rw [hu] at hz; cases hz
theorem st_arS_120 : arS tabA 120 = some (4, 1) := by kernel_rfl
def isum : List Int → Int
 | [] => 0
 | x :: l => x + isum l
theorem isum_app : ∀ l l' : List Int, isum (l ++ l') = isum l + isum l'
 | [], l' => by show isum l' = 0 + isum l'; omega
 | x :: l, l' => by
  show x + isum (l ++ l') = x + isum l + isum l'
  rw [isum_app l l']; omega
theorem isum_le : ∀ {l : List Int} {m : Int}, (∀ x ∈ l, 0 ≤ x ∧ x ≤ m) → 0 ≤ isum l ∧ isum l ≤ m * l.length
 | [], m, _ => by simp [isum]
 | x :: l, m, h => by
  have h1 := h x (by simp)
  have h2 := isum_le (l := l) (m := m) fun y hy => h y (by simp [hy])
  rw [List.length_cons, isum, Int.natCast_add, Int.mul_add]
  omega
theorem c103 {a : Option Addr} {cap : Nat} {t : List Int} (hs : Rw intE H a t) (hl : t.length ≤ 64) (hb : ∀ x ∈ t, 0 ≤ x ∧ x ≤ 1000000) :
  acall tabA (aexec tabA Tryz.prog (N + 150)) 96 [.slice a t.length cap] H = some (true, .int .i64 (isum t), H, H.size) := by
 refine call_quiet (k := 17) (rs := [.tmp 2]) rfl fn_96 rfl rfl rfl ?_ rfl
 simp (disch:=first|(simp only [yk,seval];done)|omega|(simp only [yz]<;>omega)|fail) only [↓yp,yA,ys0,ys1,seval,fitB,newC,endD,endR,lenV_slice st_esS_26]
 refine W_while (n := 17) 40 (fun k e H' => ∃ i : Nat, k = t.length - i ∧ i ≤ t.length ∧ gt 17 e 8 = .int .i64 (i : Nat) ∧ gt 17 e 7 = .int .i64 t.length ∧ gt 17 e 6 = .slice a t.length cap ∧ gt 17 e 3 = .int .i64 (isum (t.take i)) ∧ H' = H)
  ?_ 64 t.length ⟨0, by omega, by omega, by simp (disch:=first|(simp only [yk,seval];done)|omega|(simp only [yz]<;>omega)|fail) only [yg,Nat.reduceAdd,Nat.reduceEqDiff,Nat.reduceLT]; rfl, by simp (disch:=first|(simp only [yk,seval];done)|omega|(simp only [yz]<;>omega)|fail) only [yg,Nat.reduceAdd,Nat.reduceEqDiff,Nat.reduceLT], by simp (disch:=first|(simp only [yk,seval];done)|omega|(simp only [yz]<;>omega)|fail) only [yg,Nat.reduceAdd,Nat.reduceEqDiff,Nat.reduceLT], by simp (disch:=first|(simp only [yk,seval];done)|omega|(simp only [yz]<;>omega)|fail) only [yg,Nat.reduceAdd,Nat.reduceEqDiff,Nat.reduceLT]; rfl, rfl⟩ (by omega) (by omega)
 rintro M k e H' ⟨i, rfl, hi, g8, g7, g6, g3, rfl⟩
 simp (disch:=first|(simp only [yk,seval];done)|omega|(simp only [yz]<;>omega)|fail) only [↓yp,yA,ys0,ys1,seval,fitB,newC,endD,endR,g8,g7]
 refine ⟨fun hA => ?_, fun hA => ?_⟩
 ·have hi' : i < t.length := by simpa using hA
  obtain ⟨v, hv⟩ : ∃ v, t[i]? = some v := ⟨t[i], by simp [hi']⟩
  obtain ⟨b, o, c, rfl, hb', hc, hp⟩ := hs.at_ hv
  have q := cell_of hp
  rw [show i * intE.z = i * 1 from rfl, Nat.mul_one] at q
  have hv2 := hb v (List.mem_of_getElem? hv)
  have hs1 := isum_le (l := t.take i) (m := 1000000) fun x hx => hb x (List.mem_of_mem_take hx)
  have hl1 : (t.take i).length ≤ 64 := by rw [List.length_take]; omega
  have e1 : isum (t.take i) + v = isum (t.take (i + 1)) := by
   rw [List.take_add_one, hv, isum_app]; show _ = _ + (v + 0); omega
  have hw : w64 (isum (t.take i) + v) = isum (t.take (i + 1)) := by rw [w64_of (by omega), e1]
  have hw2 : w64 ((i : Int) + 1) = ((i + 1 : Nat) : Int) := by rw [w64_of (by omega)]; omega
  simp (disch:=first|(simp only [yk,seval];done)|omega|(simp only [yz]<;>omega)|fail) only [↓yp,yA,ys0,ys1,seval,fitB,newC,endD,endR,g8,g7,g6,g3,A_indexSlice st_esS_26,hc,q,hw,hw2]
  exact ⟨t.length - (i + 1), by omega, i + 1, rfl, by omega, by simp (disch:=first|(simp only [yk,seval];done)|omega|(simp only [yz]<;>omega)|fail) only [yg,Nat.reduceAdd,Nat.reduceEqDiff,Nat.reduceLT], by simp (disch:=first|(simp only [yk,seval];done)|omega|(simp only [yz]<;>omega)|fail) only [yg,Nat.reduceAdd,Nat.reduceEqDiff,Nat.reduceLT,g7], by simp (disch:=first|(simp only [yk,seval];done)|omega|(simp only [yz]<;>omega)|fail) only [yg,Nat.reduceAdd,Nat.reduceEqDiff,Nat.reduceLT,g6], by simp (disch:=first|(simp only [yk,seval];done)|omega|(simp only [yz]<;>omega)|fail) only [yg,Nat.reduceAdd,Nat.reduceEqDiff,Nat.reduceLT], rfl⟩
 ·have hi' : i = t.length := by
   have : ¬ ((i : Int) < t.length) := by simpa using hA
   omega
  subst hi'
  rw [List.take_length] at g3
  simp (disch:=first|(simp only [yk,seval];done)|omega|(simp only [yz]<;>omega)|fail) only [↓yp,yA,ys0,ys1,seval,fitB,newC,endD,endR,g3]
theorem fl_int : ∀ t : List Int, intE.fl t = tv t
 | [] => rfl
 | x :: t => by show [Value.int .i64 x] ++ intE.fl t = .int .i64 x :: tv t; rw [fl_int t]; rfl
theorem Rw.int {b : Nat} {t : List Int} (hb : b < H.size) (h : cellsOf (H.get b) = some (tv t)) : Rw intE H (some ⟨b, 0, none⟩) t := Rw.of (r := []) hb h (by rw [List.append_nil, fl_int])
theorem c76 {t : List Int} (hl : t.length = 4) (hb : ∀ x ∈ t, 0 ≤ x ∧ x ≤ 1000000) : acall tabA (aexec tabA Tryz.prog (N + 200)) 132 [.agg ⟨tv t⟩] H = some (true, .int .i64 (isum t), H, H.size) := by
 refine call_quiet (k := 5) (rs := [.tmp 2]) rfl fn_132 rfl rfl rfl ?_ rfl
 obtain ⟨a, b, c, d, rfl⟩ : ∃ a b c d : Int, t = [a, b, c, d] := by
  match t, hl with
  | [a, b, c, d], _ => exact ⟨a, b, c, d, rfl⟩
 have h103 := fun (N : Nat) => c103 (N := N) (H := H.alloc (.rw (tv [a, b, c, d]) 120 false [])) (cap := 4) (Rw.int (b := H.size) (by simp) (by rw [get_alloc_eq rfl]; rfl)) (by simp) hb
 simp only [tv,List.map_cons,List.map_nil,List.length_cons,List.length_nil,Nat.zero_add,Nat.reduceAdd] at h103
 simp (disch:=first|(simp only [yk,seval];done)|omega|(simp only [yz]<;>omega)|fail) only [↓yp,yA,ys0,ys1,seval,fitB,newC,endD,endR,tv,A_all st_arS_120 (by unfold OPEN; omega) (by omega),h103]
end Go.Am
namespace Go.Am
open Go.Proofs
variable {T : Tab} {P : Program} {N L : Nat} {H : AHeap} {Q : Bool → Value → AHeap → Prop}
def Pk.sel (s : Bool) (p : Pk) (n : Int) : Int := bif s then p.il n else p.ih n
def fo (s : Bool) : List Pk → List Int → List Int
 | p :: ps, n :: m => p.sel s n :: fo s ps m
 | _, _ => []
theorem fo_len {s : Bool} : ∀ {ps : List Pk} {m : List Int}, ps.length ≤ m.length → (fo s ps m).length = ps.length
 | [], m, _ => by simp [fo]
 | p :: ps, [], h => by simp at h
 | p :: ps, n :: m, h => by
  simp only [fo,List.length_cons]
  rw [fo_len (by simpa using h)]
theorem fo_get {s : Bool} : ∀ {ps : List Pk} {m : List Int} {i : Nat} {p : Pk} {n : Int}, ps[i]? = some p → m[i]? = some n → (fo s ps m)[i]? = some (p.sel s n)
 | [], m, i, p, n, h, _ => by simp at h
 | q :: ps, [], i, p, n, _, h => by simp at h
 | q :: ps, k :: m, 0, p, n, h, h' => by
  simp only [List.getElem?_cons_zero,Option.some.injEq] at h h'
  subst h h'; rfl
 | q :: ps, k :: m, i + 1, p, n, h, h' => by
  simp only [fo,List.getElem?_cons_succ] at h h' ⊢
  exact fo_get h h'
theorem sel_le {s : Bool} {p : Pk} {n : Int} (h : p.Ok) (hn : 0 ≤ n ∧ n ≤ 6) : 0 ≤ p.sel s n ∧ p.sel s n ≤ 12 := by
 obtain ⟨h1, h2, h3, h4⟩ := h
 cases s
 ·show 0 ≤ p.ih n ∧ p.ih n ≤ 12
  unfold Pk.ih Pk.hi
  repeat' split
  all_goals omega
 ·show 0 ≤ p.il n ∧ p.il n ≤ 12
  unfold Pk.il
  split <;> omega
theorem fo_mem {s : Bool} {x : Int} : ∀ {ps : List Pk} {m : List Int}, (∀ p ∈ ps, p.Ok) → (∀ n ∈ m, 0 ≤ n ∧ n ≤ 6) → x ∈ fo s ps m → 0 ≤ x ∧ x ≤ 12
 | [], m, _, _, h => by simp [fo] at h
 | q :: ps, [], _, _, h => by simp [fo] at h
 | q :: ps, k :: m, h1, h2, h => by
  simp only [fo,List.mem_cons] at h
  rcases h with rfl | h
  ·exact sel_le (h1 _ (by simp)) (h2 _ (by simp))
  ·exact fo_mem (fun p hp => h1 p (by simp [hp])) (fun n hn => h2 n (by simp [hn])) h
def pt (l : List Int) (i : Nat) : List Int := l.take i ++ List.replicate (4 - i) 0
theorem pt_len {l : List Int} {i : Nat} (h : i ≤ l.length) (h4 : l.length ≤ 4) : (pt l i).length = 4 := by
 unfold pt
 rw [List.length_append, List.length_take, List.length_replicate]; omega
theorem pt_next {l : List Int} {i : Nat} {v : Int} (h : l[i]? = some v) (h4 : l.length ≤ 4) : (pt l i).set i v = pt l (i + 1) := by
 have hi := (List.getElem?_eq_some_iff.1 h).1
 have hl : (l.take i).length = i := by rw [List.length_take]; omega
 unfold pt
 rw [List.set_append_right _ _ (by omega), hl, Nat.sub_self, List.take_add_one, h, show 4 - i = (4 - (i + 1)) + 1 by omega, List.replicate_succ, List.set_cons_zero, List.append_assoc]
 rfl
theorem isum_rep : ∀ n : Nat, isum (List.replicate n 0) = 0
 | 0 => rfl
 | n + 1 => by rw [List.replicate_succ, isum, isum_rep n]; rfl
theorem isum_pt {l : List Int} : isum (pt l l.length) = isum l := by
 unfold pt
 rw [isum_app, isum_rep, List.take_length]; omega
def endF (s : Bool) : Nat := bif s then 169 else 140
theorem c_end {s : Bool} {a b : Int} : acall tabA (aexec tabA Tryz.prog (N + 20)) (endF s) [.agg ⟨[.int .i64 a, .int .i64 b]⟩] H = some (true, .int .i64 (bif s then a else b), H, H.size) := by
 cases s
 ·exact c115
 ·exact c130
theorem tv_at {t : List Int} {i : Nat} {n : Int} (h : t[i]? = some n) : (tv t)[i]? = some (.int .i64 n) := by
 unfold tv
 rw [List.getElem?_map, h]; rfl
set_option maxHeartbeats 1000000 in
theorem c78 {s : Bool} {a : Option Addr} {cap : Nat} {ps : List Pk} {m : List Int} {g lo mp : Value} (hs : Rw pkE H a ps) (hl : ps.length ≤ 4) (hk : ∀ p ∈ ps, p.Ok) (hm : m.length = 4) (hb : ∀ n ∈ m, 0 ≤ n ∧ n ≤ 6) :
  acall tabA (aexec tabA Tryz.prog (N + 300)) 133 [.agg ⟨[.slice a ps.length cap, g, lo, mp]⟩, .agg ⟨tv m⟩, .agg ⟨[.func (.func (endF s)) ⟨[]⟩ ⟨[]⟩]⟩] H = some (true, .int .i64 (isum (fo s ps m)), H, H.size) := by
 refine call_quiet (k := 32) (rs := [.tmp 6]) rfl fn_133 rfl rfl rfl ?_ rfl
 have hfl := fo_len (s := s) (ps := ps) (m := m) (by omega)
 have hf0 : [.int .i64 0, .int .i64 0, .int .i64 0, .int .i64 0] = tv (pt (fo s ps m) 0) := rfl
 simp (disch:=first|(simp only [yk,seval];done)|omega|(simp only [yz]<;>omega)|fail) only [↓yp,yA,ys0,ys1,seval,fitB,newC,endD,endR,lenV_slice st_esS_22,hf0]
 refine W_while (n := 32) 160 (fun k e H' => ∃ i : Nat, k = ps.length - i ∧ i ≤ ps.length ∧ gt 32 e 14 = .int .i64 (i : Nat) ∧ gt 32 e 13 = .int .i64 ps.length ∧ gt 32 e 12 = .slice a ps.length cap ∧ gt 32 e 4 = .pointer (some ⟨H.size + 1, 0, none⟩) ∧ gt 32 e 5 = .pointer (some ⟨H.size + 1 + 1, 0, none⟩) ∧ gt 32 e 7 = .pointer (some ⟨H.size + 1 + 1 + 1, 0, none⟩) ∧ Fr H H' ∧ H.size + 1 + 1 + 1 < H'.size ∧
   H'.get (H.size + 1) = .rw (tv m) 120 false [] ∧ H'.get (H.size + 1 + 1) = .rw [.func (.func (endF s)) ⟨[]⟩ ⟨[]⟩] 126 false [] ∧ H'.get (H.size + 1 + 1 + 1) = .rw (tv (pt (fo s ps m) i)) 120 false [])
  ?_ 4 ps.length ⟨0, by omega, by omega, by simp (disch:=first|(simp only [yk,seval];done)|omega|(simp only [yz]<;>omega)|fail) only [yg,Nat.reduceAdd,Nat.reduceEqDiff,Nat.reduceLT]; rfl, by simp (disch:=first|(simp only [yk,seval];done)|omega|(simp only [yz]<;>omega)|fail) only [yg,Nat.reduceAdd,Nat.reduceEqDiff,Nat.reduceLT], by simp (disch:=first|(simp only [yk,seval];done)|omega|(simp only [yz]<;>omega)|fail) only [yg,Nat.reduceAdd,Nat.reduceEqDiff,Nat.reduceLT], by simp (disch:=first|(simp only [yk,seval];done)|omega|(simp only [yz]<;>omega)|fail) only [yg,Nat.reduceAdd,Nat.reduceEqDiff,Nat.reduceLT], by simp (disch:=first|(simp only [yk,seval];done)|omega|(simp only [yz]<;>omega)|fail) only [yg,Nat.reduceAdd,Nat.reduceEqDiff,Nat.reduceLT], by simp (disch:=first|(simp only [yk,seval];done)|omega|(simp only [yz]<;>omega)|fail) only [yg,Nat.reduceAdd,Nat.reduceEqDiff,Nat.reduceLT], by (repeat (first | exact Fr.refl _ | assumption | refine Fr.allocd ?_ _ | refine Fr.kill ?_ (by first | assumption | omega) | refine Fr.put ?_ (by first | omega | (simp only [yz] <;> omega)) _)), by (first | omega | (simp only [yz] <;> omega)), by simp (disch:=first|(simp only [yk,seval];done)|omega|(simp only [yz]<;>omega)|fail) only [yg,Nat.reduceAdd,Nat.reduceEqDiff,Nat.reduceLT], by simp (disch:=first|(simp only [yk,seval];done)|omega|(simp only [yz]<;>omega)|fail) only [yg,Nat.reduceAdd,Nat.reduceEqDiff,Nat.reduceLT], by simp (disch:=first|(simp only [yk,seval];done)|omega|(simp only [yz]<;>omega)|fail) only [yg,Nat.reduceAdd,Nat.reduceEqDiff,Nat.reduceLT]⟩ (by omega) (by omega)
 rintro M k e H' ⟨i, rfl, hi, g14, g13, g12, g4, g5, g7, fr, hlt, b1, b2, b3⟩
 have f0 := fr.size
 have fs := fr.same
 simp (disch:=first|(simp only [yk,seval];done)|omega|(simp only [yz]<;>omega)|fail) only [↓yp,yA,ys0,ys1,seval,fitB,newC,endD,endR,g14,g13]
 refine ⟨fun hA => ?_, fun hA => ?_⟩
 ·have hi' : i < ps.length := by simpa using hA
  obtain ⟨p, hp⟩ : ∃ p, ps[i]? = some p := ⟨ps[i], by simp [hi']⟩
  obtain ⟨n, hn⟩ : ∃ n, m[i]? = some n := ⟨m[i]'(by omega), by simp [show i < m.length by omega]⟩
  obtain ⟨b, o, c, rfl, hb1, hc, hq⟩ := hs.at_ hp
  have q : part c (o + i * 4) 5 = some (.agg ⟨Pk.enc p⟩) := part_of hq rfl
  have hc' : cellsOf (H'.get b) = some c := by rw [fs b hb1]; exact hc
  have hpo := hk p (List.mem_of_getElem? hp)
  have hno := hb n (List.mem_of_getElem? hn)
  have h94 := fun (N : Nat) (H : AHeap) => c94 (N := N) (H := H) hpo hno
  have hce := fun (N : Nat) (H : AHeap) => c_end (N := N) (H := H) (s := s) (a := p.il n) (b := p.ih n)
  have hfg := fo_get (s := s) hp hn
  have hnx := pt_next hfg (by omega)
  have hpl : (tv (pt (fo s ps m) i)).length = 4 := by rw [tv_len, pt_len (by omega) (by omega)]
  have hfit : decide (i ≤ 3) = true := by simp; omega
  have hset : newC i [.int .i64 (bif s then p.il n else p.ih n)] (tv (pt (fo s ps m) i)) = tv (pt (fo s ps m) (i + 1)) := by
   rw [newC_tv (by rw [pt_len (by omega) (by omega)]; omega), ← hnx]; rfl
  have hmi := tv_at hn
  have hw2 : w64 ((i : Int) + 1) = ((i + 1 : Nat) : Int) := by rw [w64_of (by omega)]; omega
  simp only [Pk.enc] at q h94
  simp (disch:=first|(simp only [yk,seval];done)|omega|(simp only [yz]<;>omega)|fail) only [↓yp,yA,ys0,ys1,seval,fitB,newC,endD,endR,g14,g13,g12,A_indexSlice st_esS_22,hc',q]
  refine W_draw [10] rfl (by kernel_rfl) (by kernel_rfl) (by first|omega|(simp only [yz]<;>omega)) ?_
  simp (disch:=first|(simp only [yk,seval];done)|omega|(simp only [yz]<;>omega)|fail) only [↓yp,yA,ys0,ys1,seval,fitB,newC,endD,endR,g14,g13,g12,g4,g5,g7,b1,b2,b3,A_indexArr st_arS_120,hmi,h94,hce,hpl,hfit,hset,hw2]
  refine ⟨ps.length - (i + 1), by omega, i + 1, rfl, by omega, ?_, ?_, ?_, ?_, ?_, ?_, by (repeat (first | exact Fr.refl _ | assumption | refine Fr.allocd ?_ _ | refine Fr.kill ?_ (by first | assumption | omega) | refine Fr.put ?_ (by first | omega | (simp only [yz] <;> omega)) _)), by (first | omega | (simp only [yz] <;> omega)), ?_, ?_, ?_⟩
  ·simp (disch:=first|(simp only [yk,seval];done)|omega|(simp only [yz]<;>omega)|fail) only [yg,Nat.reduceAdd,Nat.reduceEqDiff,Nat.reduceLT]
  ·simp (disch:=first|(simp only [yk,seval];done)|omega|(simp only [yz]<;>omega)|fail) only [yg,Nat.reduceAdd,Nat.reduceEqDiff,Nat.reduceLT,g13]
  ·simp (disch:=first|(simp only [yk,seval];done)|omega|(simp only [yz]<;>omega)|fail) only [yg,Nat.reduceAdd,Nat.reduceEqDiff,Nat.reduceLT,g12]
  ·simp (disch:=first|(simp only [yk,seval];done)|omega|(simp only [yz]<;>omega)|fail) only [yg,Nat.reduceAdd,Nat.reduceEqDiff,Nat.reduceLT,g4]
  ·simp (disch:=first|(simp only [yk,seval];done)|omega|(simp only [yz]<;>omega)|fail) only [yg,Nat.reduceAdd,Nat.reduceEqDiff,Nat.reduceLT,g5]
  ·simp (disch:=first|(simp only [yk,seval];done)|omega|(simp only [yz]<;>omega)|fail) only [yg,Nat.reduceAdd,Nat.reduceEqDiff,Nat.reduceLT,g7]
  ·simp (disch:=first|(simp only [yk,seval];done)|omega|(simp only [yz]<;>omega)|fail) only [yg,Nat.reduceAdd,Nat.reduceEqDiff,Nat.reduceLT,b1]
  ·simp (disch:=first|(simp only [yk,seval];done)|omega|(simp only [yz]<;>omega)|fail) only [yg,Nat.reduceAdd,Nat.reduceEqDiff,Nat.reduceLT,b2]
  ·simp (disch:=first|(simp only [yk,seval];done)|omega|(simp only [yz]<;>omega)|fail) only [yg,Nat.reduceAdd,Nat.reduceEqDiff,Nat.reduceLT]
   rw [← hset]; rfl
 ·have hi' : i = ps.length := by have := of_decide_eq_false hA; omega
  subst hi'
  rw [← hfl] at b3
  have h76 := fun (N : Nat) (H : AHeap) => c76 (N := N) (H := H) (t := pt (fo s ps m) (fo s ps m).length) (pt_len (by omega) (by omega)) (by
   intro x hx
   unfold pt at hx
   rw [List.take_length] at hx
   rcases List.mem_append.1 hx with hx | hx
   ·have := fo_mem hk hb hx; omega
   ·have := List.eq_of_mem_replicate hx; omega)
  rw [isum_pt] at h76
  have hpart : part (tv (pt (fo s ps m) (fo s ps m).length)) 0 5 = some (.agg ⟨tv (pt (fo s ps m) (fo s ps m).length)⟩) := part_tv (pt_len (by omega) (by omega))
  simp (disch:=first|(simp only [yk,seval];done)|omega|(simp only [yz]<;>omega)|fail) only [↓yp,yA,ys0,ys1,seval,fitB,newC,endD,endR,g7,b3,hpart,h76]
theorem c79 : acall tabA (aexec tabA Tryz.prog (N + 20)) 68 [] H = some (true, .agg ⟨[.func (.func (endF false)) ⟨[]⟩ ⟨[]⟩]⟩, H, H.size) := by
 refine call_quiet (k := 2) (rs := [.cell 0 126]) rfl fn_68 rfl rfl rfl ?_ rfl
 simp (disch:=first|(simp only [yk,seval];done)|omega|(simp only [yz]<;>omega)|fail) only [↓yp,yA,ys0,ys1,seval,fitB,newC,endD,endR,A_build st_bdS_126]
 rfl
theorem c118 : acall tabA (aexec tabA Tryz.prog (N + 20)) 137 [] H = some (true, .agg ⟨[.func (.func (endF true)) ⟨[]⟩ ⟨[]⟩]⟩, H, H.size) := by
 refine call_quiet (k := 2) (rs := [.cell 0 126]) rfl fn_137 rfl rfl rfl ?_ rfl
 simp (disch := (first | (simp only [ne_eq,Nat.reduceEqDiff,not_false_eq_true,Nat.reduceLT]; done) | omega | (simp only [yz] <;> omega) | fail)) only [↓yp,yA,ys0,ys1,Nat.reduceAdd,Nat.reduceMul,Nat.reduceSub,Nat.reduceBEq,Nat.reduceEqDiff,Nat.reduceLT,Nat.reduceLeDiff,reduceIte,Int.reduceAdd,Int.reduceSub,Int.reduceMul,Int.reduceLT,Int.reduceLE,Int.reduceEq,Int.reduceToNat,Int.reduceNeg,fitB,newC,endD,endR,A_build st_bdS_126]
 rfl
theorem sl_tv {n : Nat} : ∀ t : List Int, sameL (sameV (n + 1)) (tv t) (tv t) = true
 | [] => rfl
 | x :: t => by
  show (sameV (n + 1) (.int .i64 x) (.int .i64 x) && sameL (sameV (n + 1)) (tv t) (tv t)) = true
  rw [sv_int, sl_tv t]; rfl
theorem c120 {a : Option Addr} {cap : Nat} {ps : List Pk} {m : List Int} {g lo mp : Value} (hs : Rw pkE H a ps) (hl : ps.length ≤ 4) (hk : ∀ p ∈ ps, p.Ok) (hm : m.length = 4) (hb : ∀ n ∈ m, 0 ≤ n ∧ n ≤ 6)
  (hg : sameV 5 g g = true) (ho : sameV 5 lo lo = true) (hp : sameV 5 mp mp = true) :
  acall tabA (aexec tabA Tryz.prog (N + 400)) 142 [.agg ⟨[.slice a ps.length cap, g, lo, mp]⟩, .agg ⟨tv m⟩] H = some (true, .agg ⟨[.int .i64 (isum m), .int .i64 (isum (fo false ps m))]⟩, H, H.size) := by
 refine call_quiet (k := 12) (rs := [.cell 4 202]) rfl fn_142 rfl rfl rfl ?_ rfl
 have hmp : part (tv m) 0 5 = some (.agg ⟨tv m⟩) := part_tv hm
 have hst := fun n => sl_tv (n := n) m
 have h76 := fun (N : Nat) (H : AHeap) => c76 (N := N) (H := H) (t := m) hm fun x hx => by have := hb x hx; omega
 have h79 := fun (N : Nat) (H : AHeap) => c79 (N := N) (H := H)
 have h78 := fun (N : Nat) => c78 (N := N) (s := false) (g := g) (lo := lo) (mp := mp) (cap := cap) (hs.fr (H' := ((H.alloc (.rw [.slice a ps.length cap, g, lo, mp] 116 false [])).alloc (.rw (tv m) 120 false [])).alloc (.rw [.int .i64 0, .int .i64 0] 202 false [])) (by (repeat (first | exact Fr.refl _ | assumption | refine Fr.allocd ?_ _ | refine Fr.kill ?_ (by first | assumption | omega) | refine Fr.put ?_ (by first | omega | (simp only [yz] <;> omega)) _)))) hl hk hm hb
 have h78' := fun (N : Nat) (x y : Value) => c78 (N := N) (s := false) (g := g) (lo := lo) (mp := mp) (cap := cap) (hs.fr (H' := (((H.alloc (.rw [.slice a ps.length cap, g, lo, mp] 116 false [])).alloc (.rw (tv m) 120 false [])).alloc (.rw [.int .i64 0, .int .i64 0] 202 false [])).put (H.size + 1 + 1) (.rw [x, y] 202 false [])) (by (repeat (first | exact Fr.refl _ | assumption | refine Fr.allocd ?_ _ | refine Fr.kill ?_ (by first | assumption | omega) | refine Fr.put ?_ (by first | omega | (simp only [yz] <;> omega)) _)))) hl hk hm hb
 simp (disch:=first|(simp only [yk,seval];done)|omega|(simp only [yz]<;>omega)|fail) only [↓yp,yA,ys0,ys1,seval,fitB,newC,endD,endR]
 refine W_draw [7] rfl (by kernel_rfl) (by kernel_rfl) (by first|omega|(simp only [yz]<;>omega)) ?_
 simp (disch:=first|(simp only [yk,seval];done)|omega|(simp only [yz]<;>omega)|fail) only [↓yp,yA,ys0,ys1,seval,fitB,newC,endD,endR,hmp,h76,h79,h78,h78',A_build st_bdS_202,hst,hg,ho,hp]
end Go.Am
namespace Go.Am
open Go.Proofs
variable {T : Tab} {P : Program} {N L : Nat} {H : AHeap} {Q : Bool → Value → AHeap → Prop}
def hasG (sz fl : Int) (g : Gd) : Bool := decide (0 < sz) && decide (100 * fl ≤ g.fo * sz)
theorem c121 {sz fl : Int} {g : Gd} (h1 : 0 ≤ sz ∧ sz ≤ 100) (h2 : 0 ≤ fl ∧ fl ≤ 100) (h3 : 0 ≤ g.fo ∧ g.fo ≤ 100) : acall tabA (aexec tabA Tryz.prog (N + 60)) 143 [.agg ⟨[.int .i64 sz, .int .i64 fl]⟩, .agg ⟨g.enc⟩] H = some (true, .bool (hasG sz fl g), H, H.size) := by
 refine call_quiet (k := 19) (rs := [.tmp 4]) rfl fn_143 rfl rfl rfl ?_ rfl
 have hm : 0 ≤ g.fo * sz ∧ g.fo * sz ≤ 10000 := ⟨Int.mul_nonneg h3.1 h1.1, by have := Int.mul_le_mul h3.2 h1.2 h1.1 (by omega : (0:Int) ≤ 100); omega⟩
 have w1 : w64 (100 * fl) = 100 * fl := w64_of (by omega)
 have w2 : w64 (g.fo * sz) = g.fo * sz := w64_of (by omega)
 unfold hasG
 cases hA : decide (0 < sz)
 ·simp (disch:=first|(simp only [yk,seval];done)|omega|(simp only [yz]<;>omega)|fail) only [↓yp,yA,ys0,ys1,seval,fitB,newC,endD,endR,Gd.enc,hA]
 ·simp (disch:=first|(simp only [yk,seval];done)|omega|(simp only [yz]<;>omega)|fail) only [↓yp,yA,ys0,ys1,seval,fitB,newC,endD,endR,Gd.enc,hA,w1,w2]
def fstI (p : Gd → Bool) : List Gd → Nat → Int
 | [], _ => -1
 | g :: l, k => bif p g then (k : Int) else fstI p l (k + 1)
theorem fstI_drop {p : Gd → Bool} {gs : List Gd} {i : Nat} {x : Gd} (h : gs[i]? = some x) : fstI p (gs.drop i) i = bif p x then (i : Int) else fstI p (gs.drop (i + 1)) (i + 1) := by
 obtain ⟨hi, hx⟩ := List.getElem?_eq_some_iff.1 h
 rw [List.drop_eq_getElem_cons hi, hx]; rfl
theorem c119 {a : Option Addr} {cap g : Nat} {gs : List Gd} {bd : List Value} {p : Gd → Bool} (hs : Rw gdE H a gs) (hl : gs.length ≤ 8) (hp : ∀ (N : Nat) (H' : AHeap) (x : Gd), x ∈ gs → acall tabA (aexec tabA Tryz.prog (N + 60)) g (bd ++ [.agg ⟨x.enc⟩]) H' = some (true, .bool (p x), H', H'.size)) :
  acall tabA (aexec tabA Tryz.prog (N + 170)) 141 [.slice a gs.length cap, .func (.func g) ⟨bd⟩ ⟨[]⟩] H = some (true, .int .i64 (fstI p gs 0), H, H.size) := by
 refine call_quiet (k := 19) (rs := [.tmp 4]) rfl fn_141 rfl rfl rfl ?_ rfl
 simp (disch:=first|(simp only [yk,seval];done)|omega|(simp only [yz]<;>omega)|fail) only [↓yp,yA,ys0,ys1,seval,fitB,newC,endD,endR,lenV_slice st_esS_23]
 refine W_while (n := 19) 70 (fun k e H' => ∃ i, k = gs.length - i ∧ i ≤ gs.length ∧ gt 19 e 8 = .int .i64 (i : Nat) ∧ gt 19 e 7 = .int .i64 gs.length ∧ gt 19 e 0 = .slice a gs.length cap ∧ gt 19 e 1 = .func (.func g) ⟨bd⟩ ⟨[]⟩ ∧ H' = H ∧ fstI p gs 0 = fstI p (gs.drop i) i)
  ?_ 8 gs.length ⟨0, by omega, by omega, by simp (disch:=first|(simp only [yk,seval];done)|omega|(simp only [yz]<;>omega)|fail) only [yg,Nat.reduceAdd,Nat.reduceEqDiff,Nat.reduceLT]; rfl, by simp (disch:=first|(simp only [yk,seval];done)|omega|(simp only [yz]<;>omega)|fail) only [yg,Nat.reduceAdd,Nat.reduceEqDiff,Nat.reduceLT], by simp (disch:=first|(simp only [yk,seval];done)|omega|(simp only [yz]<;>omega)|fail) only [yg,Nat.reduceAdd,Nat.reduceEqDiff,Nat.reduceLT], by simp (disch:=first|(simp only [yk,seval];done)|omega|(simp only [yz]<;>omega)|fail) only [yg,Nat.reduceAdd,Nat.reduceEqDiff,Nat.reduceLT], rfl, by simp⟩ (by omega) (by omega)
 rintro M k e H' ⟨i, rfl, hi, g8, g7, g0, g1, rfl, hj⟩
 simp (disch:=first|(simp only [yk,seval];done)|omega|(simp only [yz]<;>omega)|fail) only [↓yp,yA,ys0,ys1,seval,fitB,newC,endD,endR,g8,g7]
 refine ⟨fun hlt => ?_, fun hlt => ?_⟩
 ·have hi' : i < gs.length := by simpa using hlt
  obtain ⟨x, hx⟩ : ∃ x, gs[i]? = some x := ⟨gs[i], by simp [hi']⟩
  obtain ⟨b, o, c, rfl, hb, hc, hq⟩ := hs.at_ hx
  have q : part c (o + i * 2) 3 = some (.agg ⟨x.enc⟩) := part_of hq rfl
  have hpx := fun (N : Nat) => hp N H' x (List.mem_of_getElem? hx)
  rw [fstI_drop hx] at hj
  simp (disch:=first|(simp only [yk,seval];done)|omega|(simp only [yz]<;>omega)|fail) only [↓yp,yA,ys0,ys1,seval,fitB,newC,endD,endR,g8,g7,g0,g1,A_indexSlice st_esS_23,hc,q,hpx]
  refine ⟨fun hA => ?_, fun hA => ?_⟩
  ·rw [hA] at hj
   have hj' : fstI p gs 0 = (i : Int) := hj
   simp (disch:=first|(simp only [yk,seval];done)|omega|(simp only [yz]<;>omega)|fail) only [↓yp,yA,ys0,ys1,seval,fitB,newC,endD,endR,hA,hj']
  ·rw [hA] at hj
   have hj' : fstI p gs 0 = fstI p (gs.drop (i + 1)) (i + 1) := hj
   have hw2 : w64 ((i : Int) + 1) = ((i + 1 : Nat) : Int) := by rw [w64_of (by omega)]; omega
   simp (disch:=first|(simp only [yk,seval];done)|omega|(simp only [yz]<;>omega)|fail) only [↓yp,yA,ys0,ys1,seval,fitB,newC,endD,endR,hA,g8,g7,g0,g1,hw2]
   refine ⟨gs.length - (i + 1), by omega, i + 1, rfl, by omega, ?_, ?_, ?_, ?_, rfl, hj'⟩
   ·simp (disch:=first|(simp only [yk,seval];done)|omega|(simp only [yz]<;>omega)|fail) only [yg,Nat.reduceAdd,Nat.reduceEqDiff,Nat.reduceLT]
   ·simp (disch:=first|(simp only [yk,seval];done)|omega|(simp only [yz]<;>omega)|fail) only [yg,Nat.reduceAdd,Nat.reduceEqDiff,Nat.reduceLT,g7]
   ·simp (disch:=first|(simp only [yk,seval];done)|omega|(simp only [yz]<;>omega)|fail) only [yg,Nat.reduceAdd,Nat.reduceEqDiff,Nat.reduceLT,g0]
   ·simp (disch:=first|(simp only [yk,seval];done)|omega|(simp only [yz]<;>omega)|fail) only [yg,Nat.reduceAdd,Nat.reduceEqDiff,Nat.reduceLT,g1]
 ·have hi' : i = gs.length := by
   have : ¬ ((i : Int) < gs.length) := by simpa using hlt
   omega
  subst hi'
  rw [List.drop_length] at hj
  simp (disch:=first|(simp only [yk,seval];done)|omega|(simp only [yz]<;>omega)|fail) only [↓yp,yA,ys0,ys1,seval,fitB,newC,endD,endR,hj,fstI]
theorem fstI_ge {p : Gd → Bool} : ∀ {gs : List Gd} {k : Nat}, fstI p gs k = -1 ∨ ∃ i x, fstI p gs k = ((k + i : Nat) : Int) ∧ gs[i]? = some x ∧ p x = true
 | [], k => .inl rfl
 | g :: l, k => by
  unfold fstI
  cases hg : p g
  ·rcases fstI_ge (p := p) (gs := l) (k := k + 1) with h | ⟨i, x, h1, h2, h3⟩
   ·exact .inl h
   ·exact .inr ⟨i + 1, x, by rw [cond_false, h1]; omega, by simpa using h2, h3⟩
  ·exact .inr ⟨0, g, by simp, rfl, hg⟩
def grd (ps : List Pk) (gs : List Gd) (m : List Int) : Gd :=
 match gs.find? (hasG (isum m) (isum (fo false ps m))) with
 | some g => g
 | none => ⟨0, 0⟩
theorem fstI_find {p : Gd → Bool} : ∀ {gs : List Gd} {k : Nat}, (fstI p gs k = -1 ∧ gs.find? p = none) ∨ ∃ i x, fstI p gs k = ((k + i : Nat) : Int) ∧ gs[i]? = some x ∧ gs.find? p = some x
 | [], k => .inl ⟨rfl, rfl⟩
 | g :: l, k => by
  unfold fstI
  cases hg : p g
  ·rw [List.find?_cons_of_neg (by rw [hg]; simp)]
   rcases fstI_find (p := p) (gs := l) (k := k + 1) with ⟨h, h'⟩ | ⟨i, x, h1, h2, h3⟩
   ·exact .inl ⟨h, h'⟩
   ·exact .inr ⟨i + 1, x, by rw [cond_false, h1]; omega, by simpa using h2, h3⟩
  ·exact .inr ⟨0, g, by simp, rfl, by rw [List.find?_cons_of_pos (by rw [hg])]⟩
structure Gd.Ok (g : Gd) : Prop where
 f : 0 ≤ g.fo ∧ g.fo ≤ 100
 p : 0 ≤ g.pr ∧ g.pr ≤ 100
theorem fo_sum {s : Bool} {ps : List Pk} {m : List Int} (hl : ps.length ≤ 4) (hk : ∀ p ∈ ps, p.Ok) (hm : m.length = 4) (hb : ∀ n ∈ m, 0 ≤ n ∧ n ≤ 6) : 0 ≤ isum (fo s ps m) ∧ isum (fo s ps m) ≤ 48 := by
 have h := isum_le (l := fo s ps m) (m := 12) fun x hx => fo_mem hk hb hx
 rw [fo_len (by omega)] at h
 omega
theorem m_sum {m : List Int} (hm : m.length = 4) (hb : ∀ n ∈ m, 0 ≤ n ∧ n ≤ 6) : 0 ≤ isum m ∧ isum m ≤ 24 := by
 have h := isum_le (l := m) (m := 6) hb
 omega
theorem tm_mf {f : Fn} {a b : List Operand} : tmpsOf (Op.operands (.makeFunc f a.toArray b.toArray)).toList = tmpsOf (a ++ b) := by simp [Op.operands]
set_option maxHeartbeats 1000000 in
theorem c92 {a a' : Option Addr} {cap cap' : Nat} {ps : List Pk} {gs : List Gd} {m : List Int} {lo mp : Value} (hs : Rw pkE H a ps) (hl : ps.length ≤ 4) (hk : ∀ p ∈ ps, p.Ok) (hgs : Rw gdE H a' gs) (hgl : gs.length ≤ 4) (hgk : ∀ g ∈ gs, g.Ok) (hm : m.length = 4) (hb : ∀ n ∈ m, 0 ≤ n ∧ n ≤ 6)
  (ho : sameV 5 lo lo = true) (hp : sameV 5 mp mp = true) :
  acall tabA (aexec tabA Tryz.prog (N + 600)) 75 [.agg ⟨[.slice a ps.length cap, .slice a' gs.length cap', lo, mp]⟩, .agg ⟨tv m⟩] H = some (true, .agg ⟨(grd ps gs m).enc⟩, H, H.size) := by
 refine call_quiet (k := 23) (rs := [.cell 4 78]) rfl fn_75 rfl rfl rfl ?_ rfl
 have hmp : part (tv m) 0 5 = some (.agg ⟨tv m⟩) := part_tv hm
 have hst := fun n => sl_tv (n := n) m
 simp (disch:=first|(simp only [yk,seval];done)|omega|(simp only [yz]<;>omega)|fail) only [↓yp,yA,ys0,ys1,seval,fitB,newC,endD,endR]
 have fr : Fr H (((H.alloc (.rw [.slice a ps.length cap, .slice a' gs.length cap', lo, mp] 116 false [])).alloc (.rw (tv m) 120 false [])).alloc (.rw [.int .i64 0, .int .i64 0] 78 false [])) := by (repeat (first | exact Fr.refl _ | assumption | refine Fr.allocd ?_ _ | refine Fr.kill ?_ (by first | assumption | omega) | refine Fr.put ?_ (by first | omega | (simp only [yz] <;> omega)) _))
 have h120 := fun (N : Nat) => c120 (N := N) (g := .slice a' gs.length cap') (lo := lo) (mp := mp) (cap := cap) (hs.fr fr) hl hk hm hb sv_slice ho hp
 have h119 := fun (N : Nat) => c119 (N := N) (cap := cap') (p := hasG (isum m) (isum (fo false ps m))) (g := 143) (bd := [.agg ⟨[.int .i64 (isum m), .int .i64 (isum (fo false ps m))]⟩]) (hgs.fr fr) (by omega) fun N H' x hx => c121 (by have := m_sum hm hb; omega) (by have := fo_sum (s := false) hl hk hm hb; omega) (hgk x hx).f
 refine W_draw [] rfl (by kernel_rfl) (by kernel_rfl) (by first|omega|(simp only [yz]<;>omega)) ?_
 simp (disch:=first|(simp only [yk,seval];done)|omega|(simp only [yz]<;>omega)|fail) only [↓yp,yA,ys0,ys1,seval,fitB,newC,endD,endR,hmp,h120,h119,hst,ho,hp,tm_mf]
 have h77 : part [Value.int .i64 0, Value.int .i64 0] 0 3 = some (.agg ⟨[.int .i64 0, .int .i64 0]⟩) := rfl
 rcases fstI_find (p := hasG (isum m) (isum (fo false ps m))) (gs := gs) (k := 0) with ⟨h1, h2⟩ | ⟨i, x, h1, h2, h3⟩
 ·have e : grd ps gs m = ⟨0, 0⟩ := by unfold grd; rw [h2]
  rw [h1, e]
  simp (disch:=first|(simp only [yk,seval];done)|omega|(simp only [yz]<;>omega)|fail) only [↓yp,yA,ys0,ys1,seval,fitB,newC,endD,endR,A_build st_bdS_78,Gd.enc]
 ·have e : grd ps gs m = x := by unfold grd; rw [h3]
  rw [h1, e, Nat.zero_add]
  have hi := (List.getElem?_eq_some_iff.1 h2).1
  obtain ⟨b, o, c, rfl, hb', hc, hq⟩ := hgs.at_ h2
  have q : part c (o + i * 2) 3 = some (.agg ⟨x.enc⟩) := part_of hq rfl
  have hge : decide (0 ≤ (i : Int)) = true := by simp
  simp only [Gd.enc] at q ⊢
  simp (disch:=first|(simp only [yk,seval];done)|omega|(simp only [yz]<;>omega)|fail) only [↓yp,yA,ys0,ys1,seval,fitB,newC,endD,endR,hge,A_indexSlice st_esS_23,hc,q]
end Go.Am
namespace Go.Am
variable {P : Program}
def inV (H : AHeap) : Value → Prop
 | .pointer (some a) => H.get a.block ≠ .dead
 | .slice (some a) _ _ => H.get a.block ≠ .dead
 | .map (some r) => H.get r ≠ .dead
 | .chan r => H.get (r.getD 0 / OPEN / OPEN / OPEN) ≠ .dead
 | .func fn first captured => (∀ l, fn = .yield l → H.get l ≠ .dead) ∧ (∀ v ∈ first, inV H v) ∧ (∀ v ∈ captured, inV H v)
 | .iface _ v => inV H v
 | .agg cs => ∀ v ∈ cs, inV H v
 | .tuple vs => ∀ v ∈ vs, inV H v
 | _ => True
noncomputable def Place.only (σ : Place) (H : AHeap) : Place := ⟨fun k => open Classical in if H.get k = .dead then none else σ.at_ k, σ.room⟩
section
variable {σ : Place} {H : AHeap}
theorem only_some {k : Nat} {p : Nat × Nat} (h : (σ.only H).at_ k = some p) : H.get k ≠ .dead ∧ σ.at_ k = some p := by
 unfold Place.only at h
 simp only at h
 split at h
 ·cases h
 ·rename_i h0; exact ⟨h0, h⟩
theorem only_at {k : Nat} (h : H.get k ≠ .dead) : (σ.only H).at_ k = σ.at_ k := by
 unfold Place.only
 simp only
 rw [if_neg h]
theorem only_agree : Agree (σ.only H) σ := fun k p h => ⟨(only_some h).2, rfl⟩
theorem okv_only : ∀ v, okv σ v → inV H v → okv (σ.only H) v
 | .pointer none => fun _ _ => by simp [okv]
 | .pointer (some a) => fun hv hi => by
  simp only [okv,inV] at hv hi ⊢
  rw [only_at hi]; exact hv
 | .slice none l c => fun hv _ => by
  simp only [okv] at hv ⊢
  exact hv
 | .slice (some a) l c => fun hv hi => by
  simp only [okv,inV] at hv hi ⊢
  rw [only_at hi]
  exact hv
 | .map none => fun _ _ => by simp [okv]
 | .map (some r) => fun hv hi => by
  simp only [okv,inV] at hv hi ⊢
  rw [only_at hi]; exact hv
 | .chan r => fun hv hi => by
  simp only [okv,inV] at hv hi ⊢
  rw [only_at hi]; exact hv
 | .func fn first captured => fun hv hi => by
  simp only [okv,inV] at hv hi ⊢
  obtain ⟨h1, h2, h3⟩ := hv
  obtain ⟨k1, k2, k3⟩ := hi
  refine ⟨?_, fun v hm => okv_only v (h2 v hm) (k2 v hm), fun v hm => okv_only v (h3 v hm) (k3 v hm)⟩
  cases fn <;> simp only [okfn] at h1 ⊢
  rename_i l
  rw [only_at (k1 l rfl)]; exact h1
 | .iface t v => fun hv hi => by
  simp only [okv,inV] at hv hi ⊢
  exact okv_only v hv hi
 | .agg cs => fun hv hi => by
  simp only [okv,inV] at hv hi ⊢
  exact fun v hm => okv_only v (hv v hm) (hi v hm)
 | .tuple cs => fun hv hi => by
  simp only [okv,inV] at hv hi ⊢
  exact fun v hm => okv_only v (hv v hm) (hi v hm)
 | .bool _ => fun _ _ => by simp [okv]
 | .int _ _ => fun _ _ => by simp [okv]
 | .float _ _ => fun _ _ => by simp [okv]
 | .complex _ _ _ => fun _ _ => by simp [okv]
 | .string _ => fun _ _ => by simp [okv]
 | .nilFunc => fun _ _ => by simp [okv]
 | .nilIface => fun _ _ => by simp [okv]
theorem only_ren {v : Value} (hv : okv σ v) (hi : inV H v) : ren (σ.only H) v = ren σ v := (only_agree.ren (okv_only v hv hi)).symm
theorem only_map {l : List Value} (hv : ∀ v ∈ l, okv σ v) (hi : ∀ v ∈ l, inV H v) : l.map (ren (σ.only H)) = l.map (ren σ) := List.map_congr_left fun v hm => only_ren (hv v hm) (hi v hm)
end
def inB (H : AHeap) : ABlk → Prop
 | .dead => True
 | .rw c _ _ al => (∀ v ∈ c, inV H v) ∧ ∀ j ∈ al, H.get j ≠ .dead
 | .map es _ => ∀ e ∈ es, inV H e.1 ∧ inV H e.2.1
 | _ => False
theorem Holds.only {σ : Place} {H : AHeap} {w : World} {room b s : Nat} {k : ABlk} (h : Holds σ w room b s k) (hi : inB H k) : Holds (σ.only H) w room b s k := by
 cases k with
 | dead => trivial
 | ro c => exact hi.elim
 | rw c e o al =>
  obtain ⟨h0, h1, rest, h2, h3, h4⟩ := h
  exact ⟨h0, fun v hv => okv_only v (h1 v hv) (hi.1 v hv), rest, by rw [h2, only_map h1 hi.1], h3, h4⟩
 | map es clock =>
  obtain ⟨h0, h1, h2⟩ := h
  refine ⟨h0, fun e he => ⟨okv_only _ (h1 e he).1 (hi e he).1, okv_only _ (h1 e he).2 (hi e he).2⟩, ?_⟩
  rw [h2]
  congr 3
  exact List.map_congr_left fun e he => by rw [only_ren (h1 e he).1 (hi e he).1, only_ren (h1 e he).2 (hi e he).2]
 | loop => exact hi.elim
 | defer => exact hi.elim
theorem inB_al {H : AHeap} {k : ABlk} (hi : inB H k) (hd : k ≠ .dead) : ∃ al, k.al = some al ∧ ∀ j ∈ al, H.get j ≠ .dead := by
 cases k with
 | dead => exact absurd rfl hd
 | ro c => exact hi.elim
 | rw c e o al => exact ⟨al, rfl, hi.2⟩
 | map es clock => exact ⟨[], rfl, fun j hj => by simp at hj⟩
 | loop => exact hi.elim
 | defer => exact hi.elim
theorem apart {σ : Place} {H H₀ : AHeap} {w : World} (r : Rel σ H₀ w) (hl : Less H H₀) (hb : ∀ k, inB H (H.get k)) {k k' b s s' : Nat} (hk : H.get k ≠ .dead) (hk' : H.get k' = .dead) (h : σ.at_ k = some (b, s)) (h' : σ.at_ k' = some (b, s')) : H₀.get k' = .dead := by
 have hne : k ≠ k' := fun e => by rw [e] at hk; exact hk hk'
 have he : H.get k = H₀.get k := (hl.2 k).resolve_right hk
 obtain ⟨al, h1, h2⟩ := inB_al (hb k) hk
 rw [he] at h1
 rcases r.excl k k' b s s' h h' hne al h1 with h3 | ⟨h3, _⟩
 ·exact h3
 ·exact absurd hk' (h2 k' h3)
theorem SCall.frame {f : FuncId} {args : List Value} {H H₀ H' H'' : AHeap} {v : Value} {m : Nat} (h : SCall P f args H v H' m) (hl : Less H H₀) (ha : ∀ x ∈ args, inV H x) (hb : ∀ k, inB H (H.get k))
  (hs : H''.size = H'.size) (hg1 : ∀ k, k < H.size → H.get k = .dead → H''.get k = H₀.get k) (hg2 : ∀ k, (k < H.size → H.get k ≠ .dead) → H''.get k = H'.get k) : SCall P f args H₀ v H'' m := by
 intro F n σ w hF hR hargs
 have hR1 : Rel (σ.only H) H w := by
  refine ⟨fun k b s hp => ?_, fun k b s hp => ?_, fun k k' b s s' hk hk' hne al hal => ?_⟩
  ·rw [hl.1]; exact hR.lt k b s (only_some hp).2
  ·obtain ⟨h0, h1⟩ := only_some hp
   have he : H.get k = H₀.get k := (hl.2 k).resolve_right h0
   have := hR.holds k b s h1
   rw [← he] at this
   exact this.only (hb k)
  ·obtain ⟨h0, h1⟩ := only_some hk
   obtain ⟨h2, h3⟩ := only_some hk'
   have he : H.get k = H₀.get k := (hl.2 k).resolve_right h0
   have he' : H.get k' = H₀.get k' := (hl.2 k').resolve_right h2
   rw [he] at hal
   rw [he']
   exact hR.excl k k' b s s' h1 h3 hne al hal
 have hmap : args.map (ren (σ.only H)) = args.map (ren σ) := only_map hargs ha
 have h1 := h F n (σ.only H) w hF hR1 fun x hx => okv_only x (hargs x hx) (ha x hx)
 rw [hmap] at h1
 refine h1.mono ?_
 rintro e w' ⟨τ, rfl, k1, k2, x⟩
 have hagr := x.agr hR1
 -- the old places, and the new ones
 let υ : Place := ⟨fun k => if k < H.size then σ.at_ k else τ.at_ k, fun k => if k < H.size then σ.room k else τ.room k⟩
 have υlt : ∀ k, k < H.size → υ.at_ k = σ.at_ k ∧ υ.room k = σ.room k := fun k hk => ⟨if_pos hk, if_pos hk⟩
 have υge : ∀ k, ¬ k < H.size → υ.at_ k = τ.at_ k ∧ υ.room k = τ.room k := fun k hk => ⟨if_neg hk, if_neg hk⟩
 have τυ : Agree τ υ := fun k p hp => by
  by_cases hk : k < H.size
  ·rw [(x.agree k hk).1] at hp
   obtain ⟨_, h3⟩ := only_some hp
   exact ⟨(υlt k hk).1.trans h3, (υlt k hk).2.trans ((x.agree k hk).2).symm⟩
  ·exact ⟨(υge k hk).1.trans hp, (υge k hk).2⟩
 have συ : Agree σ υ := fun k p hp => by
  obtain ⟨b, s⟩ := p
  have hk := (hR.lt k b s hp).1
  rw [← hl.1] at hk
  exact ⟨(υlt k hk).1.trans hp, (υlt k hk).2⟩
 -- blocks that are not there stay
 have hstay : ∀ k b s, H.get k = .dead → H₀.get k ≠ .dead → σ.at_ k = some (b, s) → w'.heap[b]? = w.heap[b]? := fun k b s hd h0 hp =>
  x.frame b (hR.lt k b s hp).2 fun k' s' _ hp' => by
   obtain ⟨h3, h4⟩ := only_some hp'
   exact h0 (apart hR hl hb h3 hd h4 hp)
 have hsize : H.size ≤ H'.size := x.hsize
 refine ⟨υ, by rw [τυ.ren k1], τυ.okv k1, ⟨fun k b s hp => ?_, fun k b s hp => ?_, fun k k' b s s' hk hk' hne al hal => ?_⟩, ⟨fun k hk => υlt k (by rw [hl.1]; exact hk), by rw [hs, ← hl.1]; exact hsize, x.wsize, x.os, x.tape, x.output, fun k hm hk => ?_, fun b hb' hn => x.frame b hb' fun k s hm hp => hn k s hm (only_some hp).2, fun k b s hk hp => ?_⟩⟩
 ·by_cases hk : k < H.size
  ·rw [(υlt k hk).1] at hp
   exact ⟨by rw [hs]; omega, Nat.lt_of_lt_of_le (hR.lt k b s hp).2 x.wsize⟩
  ·rw [(υge k hk).1] at hp
   rw [hs]; exact k2.lt k b s hp
 ·by_cases hk : k < H.size
  ·rw [(υlt k hk).1] at hp
   rw [(υlt k hk).2]
   by_cases hd : H.get k = .dead
   ·rw [hg1 k hk hd]
    by_cases h0 : H₀.get k = .dead
    ·rw [h0]; trivial
    ·exact (hR.holds k b s hp).agree συ (hstay k b s hd h0 hp)
   ·rw [hg2 k fun _ => hd]
    have hp' : τ.at_ k = some (b, s) := by rw [(x.agree k hk).1, only_at hd]; exact hp
    have := k2.holds k b s hp'
    rw [(x.agree k hk).2] at this
    exact this.agree τυ rfl
  ·rw [(υge k hk).1] at hp
   rw [(υge k hk).2, hg2 k fun h => absurd h hk]
   exact (k2.holds k b s hp).agree τυ rfl
 ·-- a block of the call, and one that is not there
  have mixed : ∀ q q' b s s', (q < H.size → H.get q ≠ .dead) → q' < H.size → H.get q' = .dead → υ.at_ q = some (b, s) → υ.at_ q' = some (b, s') → H₀.get q' = .dead := fun q q' b s s' hq hq1 hd hp hp' => by
   rw [(υlt q' hq1).1] at hp'
   by_cases hk : q < H.size
   ·rw [(υlt q hk).1] at hp
    exact apart hR hl hb (hq hk) hd hp hp'
   ·rw [(υge q hk).1] at hp
    rcases x.fresh q b s (by omega) hp with h3 | ⟨k0, s0, _, h4⟩
    ·have := (hR.lt q' b s' hp').2; omega
    ·obtain ⟨h5, h6⟩ := only_some h4
     exact apart hR hl hb h5 hd h6 hp'
  have back : ∀ q p, (q < H.size → H.get q ≠ .dead) → υ.at_ q = some p → τ.at_ q = some p := fun q p hq hp => by
   by_cases hk : q < H.size
   ·rw [(υlt q hk).1] at hp
    rw [(x.agree q hk).1, only_at (hq hk)]; exact hp
   ·rw [(υge q hk).1] at hp; exact hp
  by_cases hd : k < H.size ∧ H.get k = .dead
  ·obtain ⟨h3, h4⟩ := hd
   rw [hg1 k h3 h4] at hal
   by_cases hd' : k' < H.size ∧ H.get k' = .dead
   ·obtain ⟨h5, h6⟩ := hd'
    rw [(υlt k h3).1] at hk
    rw [(υlt k' h5).1] at hk'
    rw [hg1 k' h5 h6]
    exact hR.excl k k' b s s' hk hk' hne al hal
   ·have := mixed k' k b s' s (fun h5 h6 => hd' ⟨h5, h6⟩) h3 h4 hk' hk
    rw [this] at hal
    cases hal
  ·have hkk : k < H.size → H.get k ≠ .dead := fun h5 h6 => hd ⟨h5, h6⟩
   rw [hg2 k hkk] at hal
   by_cases hd' : k' < H.size ∧ H.get k' = .dead
   ·obtain ⟨h5, h6⟩ := hd'
    rw [hg1 k' h5 h6]
    exact .inl (mixed k k' b s s' hkk h5 h6 hk hk')
   ·have hkk' : k' < H.size → H.get k' ≠ .dead := fun h5 h6 => hd' ⟨h5, h6⟩
    rw [hg2 k' hkk']
    exact k2.excl k k' b s s' (back k _ hkk hk) (back k' _ hkk' hk') hne al hal
 ·by_cases hd : H.get k = .dead
  ·exact hg1 k (by rw [hl.1]; exact hk) hd
  ·rw [hg2 k fun _ => hd, x.keep k hm (by rw [hl.1]; exact hk)]
   exact (hl.2 k).resolve_right hd
 ·have hk' : ¬ k < H.size := by rw [hl.1]; omega
  rw [(υge k hk').1] at hp
  rcases x.fresh k b s (by omega) hp with h3 | ⟨k0, s0, h3, h4⟩
  ·exact .inl h3
  ·exact .inr ⟨k0, s0, h3, (only_some h4).2⟩
end Go.Am
