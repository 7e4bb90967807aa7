import Derived.Test.YtehkjjgpgnejnaaT41
import Derived.Test.YtehkjjgpgnejnaaT39
set_option linter.unusedSimpArgs false
set_option linter.unusedVariables false
namespace Go.Am.K
open Go.Proofs
variable {T : Tab} {P : Program} {N L : Nat} {H H' H'' : AHeap} {Q : Bool → Value → AHeap → Prop}
theorem st_baS_119 : baS tabA 119 = some ([.int .i64 0, .int .i64 0, .int .i64 0, .int .i64 0], 1) := by kernel_rfl
theorem eqv119 {x y : Operand} {a b c d a' b' c' d' : Int} : binV tabA Try.prog .eql 119 x y (.agg ⟨[.int .i64 a, .int .i64 b, .int .i64 c, .int .i64 d]⟩) (.agg ⟨[.int .i64 a', .int .i64 b', .int .i64 c', .int .i64 d']⟩) = some (.bool (decide ([a, b, c, d] = [a', b', c', d']))) := by
 have hb : pureRun Try.prog (do eqGuard .eql 119 x y (.agg ⟨[.int .i64 a, .int .i64 b, .int .i64 c, .int .i64 d]⟩) (.agg ⟨[.int .i64 a', .int .i64 b', .int .i64 c', .int .i64 d']⟩); binOp .eql 119 (.agg ⟨[.int .i64 a, .int .i64 b, .int .i64 c, .int .i64 d]⟩) (.agg ⟨[.int .i64 a', .int .i64 b', .int .i64 c', .int .i64 d']⟩)) = some (.bool (decide ([a, b, c, d] = [a', b', c', d']))) := by
  rw [pureRun_bind]
  rw [show pureRun Try.prog (eqGuard .eql 119 x y (.agg ⟨[.int .i64 a, .int .i64 b, .int .i64 c, .int .i64 d]⟩) (.agg ⟨[.int .i64 a', .int .i64 b', .int .i64 c', .int .i64 d']⟩)) = some () by kernel_rfl]
  rw [Option.bind_some, show binOp .eql 119 (.agg ⟨[.int .i64 a, .int .i64 b, .int .i64 c, .int .i64 d]⟩) (.agg ⟨[.int .i64 a', .int .i64 b', .int .i64 c', .int .i64 d']⟩) = (Op.equal 119 (.agg ⟨[.int .i64 a, .int .i64 b, .int .i64 c, .int .i64 d]⟩) (.agg ⟨[.int .i64 a', .int .i64 b', .int .i64 c', .int .i64 d']⟩) >>= fun b => pure (.bool b)) by simp only [binOp], pureRun_bind, eq119]
  rfl
 unfold binV
 cases h : aEqV Try.prog .eql 119 (some (.agg ⟨[.int .i64 a, .int .i64 b, .int .i64 c, .int .i64 d]⟩)) (some (.agg ⟨[.int .i64 a', .int .i64 b', .int .i64 c', .int .i64 d']⟩)) with
 | none =>
  rw [show gr (.agg ⟨[.int .i64 a, .int .i64 b, .int .i64 c, .int .i64 d]⟩) = true from rfl, show gr (.agg ⟨[.int .i64 a', .int .i64 b', .int .i64 c', .int .i64 d']⟩) = true from rfl, Bool.and_self, cond_true, hb]
  rfl
 | some v =>
  simp only [aEqV] at h
  cases h' : aEqD Try.prog 119 (.agg ⟨[.int .i64 a, .int .i64 b, .int .i64 c, .int .i64 d]⟩) (.agg ⟨[.int .i64 a', .int .i64 b', .int .i64 c', .int .i64 d']⟩) with
  | none => rw [h'] at h; cases h
  | some r =>
   rw [h'] at h
   cases h
   have h1 := (aEqD_run h' default).1
   have h2 := pureRun_run (eq119 (a := a) (b := b) (c := c) (d := d) (a' := a') (b' := b') (c' := c') (d' := d')) default
   rw [h2] at h1
   cases h1
   rfl
theorem A_cut4 {t : Operand → Option Value} {ex : Exec} {x y : Operand} {b o n : Nat} {sp : Option Nat} (hx : t x = some (.pointer (some ⟨b, o, sp⟩))) (hy : t y = some (.int .i64 (n : Nat))) (hn : n ≤ 4) (hL : L ≤ H.size) (hq : Q true (.slice (some ⟨b, o, none⟩) n 4) H) : A tabA Try.prog ex t H L (.slice 119 x none (some y) none) Q := by
 have h : aSlice tabA t H 119 x none (some y) none = some (.slice (some ⟨b, o, none⟩) n 4, H, H.size) := by
  unfold aSlice abound
  simp only [hx,hy]
  rcases (by omega : n = 0 ∨ n = 1 ∨ n = 2 ∨ n = 3 ∨ n = 4) with rfl | rfl | rfl | rfl | rfl
  all_goals rfl
 unfold A
 show (match still (aSlice tabA t H 119 x none (some y) none) with
  | some (b, v, H', m) => L ≤ m ∧ Q b v H'
  | none => False)
 rw [h]
 exact ⟨hL, hq⟩
section
variable {a a' : Option Addr} {cap cap' mk : Nat} {ps : List Pk} {gs : List Gd} {lots : Int} {g : Gd} {l : List Int} {k n : Nat}
theorem c125 {t : List Int} (hs : Rw intE H a t) (hne : t ≠ []) (hl : t.length ≤ 65) (hL : L ≤ H.size) {M : Nat} (hM : 60 ≤ M)
  (hq : ∀ k cap' H', Fr H H' → H.size ≤ k → k < H'.size → H'.get k = .rw (intE.fl t) 3 true [] → Q false (.slice (some ⟨k, 0, none⟩) t.length cap') H') : resK (acall tabA (aexec tabA Try.prog M) 125 [.slice a t.length cap] H) L Q := by
 obtain ⟨N, rfl⟩ : ∃ N, M = N + 60 := ⟨M - 60, by omega⟩
 obtain ⟨b, o, c, rfl, -⟩ := hs.get hne
 refine call_fls (R := fun v H' => ∃ k cap', v = .slice (some ⟨k, 0, none⟩) t.length cap' ∧ Fr H H' ∧ H.size ≤ k ∧ k < H'.size ∧ H'.get k = .rw (intE.fl t) 3 true []) (k := 8) (rs := [.tmp 2]) rfl fn_125 rfl rfl rfl hL ?_ ?_ ?_
 ·have hpos : 0 < t.length := List.length_pos_iff.2 hne
  simp (disch:=first|(simp only [yk,seval];done)|omega|(simp only [yz]<;>omega)|fail) only [↓yp,yq0,yq1,yq2,yq3,yq4,yl,ys0,ys1,seval,fitB,newC,endD,endR,yrg,binV_nil_some st_esS_49,A_buildSlice st_brS_49_0]
  rw [apK_empty (H := _) (n := t.length) st_apS_49 ((hs.fr (Fr.alloc _ _)).src hne) hpos (by omega) (by omega) (one_fl t) (c₀ := []) (by simp (disch:=first|(simp only [yk,seval];done)|omega|(simp only [yz]<;>omega)|fail) only [yg,seval])]
  simp (disch:=first|(simp only [yk,seval];done)|omega|(simp only [yz]<;>omega)|fail) only [↓yp,yq0,yq1,yq2,yq3,yq4,yl,ys0,ys1,seval,fitB,newC,endD,endR,yrg]
  exact ⟨_, _, rfl, by (repeat (first | exact Fr.refl _ | assumption | refine Fr.allocd ?_ _ | refine Fr.put ?_ (by first | omega | (simp only [yz] <;> omega)) _)), by (first | omega | (simp only [yz] <;> omega)), by (first | omega | (simp only [yz] <;> omega)), by simp (disch:=first|(simp only [yk,seval];done)|omega|(simp only [yz]<;>omega)|fail) only [yg,seval]⟩
 ·rintro v H' ⟨k, cap', rfl, -⟩; rfl
 ·rintro v H' ⟨k, cap', rfl, h1, h2, h3, h4⟩
  exact hq _ _ _ h1 h2 h3 h4
theorem c98 (hl : l.length = 4) (h1 : 1 ≤ n) (h4 : n ≤ 4) (hL : L ≤ H.size) {M : Nat} (hM : 90 ≤ M)
  (hq : ∀ k cap' H', Fr H H' → Rw intE H' (some ⟨k, 0, none⟩) (l.take n) → Q false (.slice (some ⟨k, 0, none⟩) n cap') H') : resK (acall tabA (aexec tabA Try.prog M) 98 [.agg ⟨tv l⟩, .int .i64 (n : Nat)] H) L Q := by
 obtain ⟨N, rfl⟩ : ∃ N, M = N + 90 := ⟨M - 90, by omega⟩
 refine call_fls (R := fun v H' => ∃ k cap', v = .slice (some ⟨k, 0, none⟩) n cap' ∧ Fr H H' ∧ Rw intE H' (some ⟨k, 0, none⟩) (l.take n)) (k := 8) (rs := [.tmp 4]) rfl fn_98 rfl rfl rfl hL ?_ ?_ ?_
 rotate_left
 ·rintro v H' ⟨k, cap', rfl, -⟩; rfl
 ·rintro v H' ⟨k, cap', rfl, h1, h2⟩
  exact hq _ _ _ h1 h2
 have hlt : (l.take n).length = n := by rw [List.length_take]; omega
 simp (disch:=first|(simp only [yk,seval];done)|omega|(simp only [yz]<;>omega)|fail) only [↓yp,yq0,yq1,yq2,yq3,yq4,yl,ys0,ys1,seval,fitB,newC,endD,endR,yrg]
 refine A_cut4 (b := H.size) (o := 0) (n := n) (sp := none) (by simp (disch:=first|(simp only [yk,seval];done)|omega|(simp only [yz]<;>omega)|fail) only [↓yp,yq0,yq1,yq2,yq3,yq4,yl,ys0,ys1,seval,fitB,newC,endD,endR,yrg]) (by simp (disch:=first|(simp only [yk,seval];done)|omega|(simp only [yz]<;>omega)|fail) only [↓yp,yq0,yq1,yq2,yq3,yq4,yl,ys0,ys1,seval,fitB,newC,endD,endR,yrg]) h4 (by first|omega|(simp only [yz]<;>omega)) ?_
 simp (disch:=first|(simp only [yk,seval];done)|omega|(simp only [yz]<;>omega)|fail) only [↓yp,yq0,yq1,yq2,yq3,yq4,yl,ys0,ys1,seval,fitB,newC,endD,endR,yrg]
 have hr : Rw intE (H.alloc (.rw (tv l) 119 false [])) (some ⟨H.size, 0, none⟩) (l.take n) := Rw.of (r := tv (l.drop n)) (c := tv l) (by first|omega|(simp only [yz]<;>omega)) (by rw [get_alloc_same]; rfl) (by rw [fl_int]; unfold tv; rw [← List.map_append, List.take_append_drop])
 have h125 := fun (M : Nat) (hM : 60 ≤ M) (Q : Bool → Value → AHeap → Prop) => c125 (Q := Q) (L := H.size) (cap := 4) hr (by intro h; rw [h] at hlt; simp at hlt; omega) (by omega) (by first|omega|(simp only [yz]<;>omega)) hM
 rw [hlt] at h125
 refine h125 _ (by omega) _ ?_
 intro k c H1 fr1 k1 k2 k3
 have f1 := fr1.size
 simp only [size_alloc] at f1
 simp (disch:=first|(simp only [yk,seval];done)|omega|(simp only [yz]<;>omega)|fail) only [↓yp,yq0,yq1,yq2,yq3,yq4,yl,ys0,ys1,seval,fitB,newC,endD,endR,yrg]
 exact ⟨k, c, rfl, Fr.trans (Fr.alloc _ _) fr1, Rw.of (r := []) k2 (by rw [k3]; rfl) (by rw [List.append_nil])⟩
theorem c110i {k : Int} (h : wi k 0 ((gs.length : Int) - 1) = true) (hl : gs.length ≤ 65) : acall tabA (aexec tabA Try.prog (N + 60)) 110 [.slice a gs.length cap, .int .i64 k] H = some (true, .bool true, H, H.size) := by
 refine call_quiet (k := 10) (rs := [.tmp 4]) rfl fn_110 rfl rfl rfl ?_ rfl
 have w1 : w64 ((gs.length : Int) - 1) = (gs.length : Int) - 1 := w64_of (by omega)
 have h58 := fun (N : Nat) (H : AHeap) => c58 (N := N) (H := H) (n := k) (lo := 0) (hi := (gs.length : Int) - 1)
 simp only [h] at h58
 simp (disch:=first|(simp only [yk,seval];done)|omega|(simp only [yz]<;>omega)|fail) only [↓yp,yq0,yq1,yq2,yq3,yq4,yl,ys0,ys1,seval,fitB,newC,endD,endR,yrg,lenV_slice st_esS_23,w1,h58]
theorem c112i {k : Int} (h : wi k 0 ((ps.length : Int) - 1) = true) (hl : ps.length ≤ 65) : acall tabA (aexec tabA Try.prog (N + 60)) 112 [.slice a ps.length cap, .int .i64 k] H = some (true, .bool true, H, H.size) := by
 refine call_quiet (k := 10) (rs := [.tmp 4]) rfl fn_112 rfl rfl rfl ?_ rfl
 have w1 : w64 ((ps.length : Int) - 1) = (ps.length : Int) - 1 := w64_of (by omega)
 have h58 := fun (N : Nat) (H : AHeap) => c58 (N := N) (H := H) (n := k) (lo := 0) (hi := (ps.length : Int) - 1)
 simp only [h] at h58
 simp (disch:=first|(simp only [yk,seval];done)|omega|(simp only [yz]<;>omega)|fail) only [↓yp,yq0,yq1,yq2,yq3,yq4,yl,ys0,ys1,seval,fitB,newC,endD,endR,yrg,lenV_slice st_esS_22,w1,h58]
def MostR (ps : List Pk) (g : Gd) (l : List Int) : Prop := LotOk ps l ∧ hasM ps g l = true ∧ ∀ x, LotOk ps x → hasM ps g x = true → isum x ≤ isum l
theorem LV_lot : ∀ {ps : List Pk} {l : List Int} {n : Nat}, l.length = ps.length + n → (LV (ps.map Pk.s ++ List.replicate n 0) l ↔ LotOk ps (l.take ps.length) ∧ l.drop ps.length = List.replicate n 0)
 | [], l, n, hl => by
  simp only [List.map_nil,List.nil_append,List.length_nil,List.take_zero,List.drop_zero]
  have key : ∀ {n : Nat} {l : List Int}, l.length = n → (LV (List.replicate n 0) l ↔ l = List.replicate n 0) := by
   intro n
   induction n with
   | zero =>
    intro l hl
    have : l = [] := List.length_eq_zero_iff.1 hl
    subst this
    exact ⟨fun _ => rfl, fun _ => trivial⟩
   | succ n ih =>
    intro l hl
    match l, hl with
    | y :: ys, hl =>
     rw [List.replicate_succ]
     show (0 ≤ y ∧ y ≤ 0) ∧ LV (List.replicate n 0) ys ↔ _
     rw [ih (by simpa using hl), List.cons.injEq]
     constructor
     ·rintro ⟨h1, h2⟩; exact ⟨by omega, h2⟩
     ·rintro ⟨h1, h2⟩; exact ⟨by omega, h2⟩
  rw [key (by simpa using hl)]
  exact ⟨fun h => ⟨⟨rfl, fun j n p h => by simp at h⟩, h⟩, fun h => h.2⟩
 | p :: ps, [], n, hl => by
  simp only [List.length_nil,List.length_cons] at hl
  omega
 | p :: ps, y :: ys, n, hl => by
  have ih := LV_lot (ps := ps) (l := ys) (n := n) (by simp only [List.length_cons] at hl; omega)
  show (0 ≤ y ∧ y ≤ p.s) ∧ LV (ps.map Pk.s ++ List.replicate n 0) ys ↔ _
  rw [ih]
  simp only [List.length_cons,List.take_succ_cons,List.drop_succ_cons]
  constructor
  ·rintro ⟨h1, h2, h3⟩
   refine ⟨⟨by rw [List.length_cons, h2.len, List.length_cons], fun j m q hm hq => ?_⟩, h3⟩
   cases j with
   | zero => simp at hm hq; subst hm hq; exact h1
   | succ j => exact h2.ok j m q (by simpa using hm) (by simpa using hq)
  ·rintro ⟨h1, h3⟩
   exact ⟨h1.ok 0 y p rfl rfl, ⟨by have := h1.len; simpa using this, fun j m q hm hq => h1.ok (j + 1) m q (by simpa using hm) (by simpa using hq)⟩, h3⟩
theorem stk_eq : stk ps = ps.map Pk.s ++ List.replicate (4 - ps.length) 0 := by
 unfold stk pt
 rw [List.take_of_length_le (by rw [List.length_map]; exact Nat.le_refl _)]
theorem LV_stk (h4 : ps.length ≤ 4) {x : List Int} (hx : LotOk ps x) : LV (stk ps) (mx x) ∧ (mx x).take ps.length = x := by
 have hl := hx.len
 have e : mx x = x ++ List.replicate (4 - ps.length) 0 := by unfold mx pt; rw [List.take_length, hl]
 have e2 : (x ++ List.replicate (4 - ps.length) 0).take ps.length = x := by rw [← hl, List.take_left]
 rw [stk_eq, e, LV_lot (by rw [List.length_append, List.length_replicate]; omega), e2]
 exact ⟨⟨hx, by rw [← hl, List.drop_left]⟩, rfl⟩
theorem stk_LV (h4 : ps.length ≤ 4) {x : List Int} (hx : LV (stk ps) x) : LotOk ps (x.take ps.length) ∧ x = mx (x.take ps.length) := by
 have hl := LV_len hx
 rw [stk_len h4] at hl
 rw [stk_eq, LV_lot (by omega)] at hx
 refine ⟨hx.1, ?_⟩
 unfold mx pt
 rw [List.take_length, hx.1.len]
 conv => lhs; rw [← List.take_append_drop ps.length x, hx.2]
theorem hasM_mx {x : List Int} (hx : LotOk ps x) : hasM ps g (mx x) = hasM ps g x := by
 unfold hasM
 rw [mx_sum, fo_pad hx.len]
theorem Bst.most (h4 : ps.length ≤ 4) {l : List Int} (B : Bst ps g (pn (stk ps)).toNat l) : (l = [0, 0, 0, 0] ∧ ∀ x, LotOk ps x → hasM ps g x = false) ∨ (l ≠ [0, 0, 0, 0] ∧ MostR ps g (l.take ps.length) ∧ l = mx (l.take ps.length)) := by
 obtain ⟨k1, k2⟩ := stk_LV h4 B.v
 have all : ∀ x, LotOk ps x → hasM ps g x = true → isum x ≤ isum l := fun x hx hh => by
  obtain ⟨q1, q2⟩ := LV_stk h4 hx
  have := vl_in q1
  have := B.le (mx x) q1 (by omega) (by rw [hasM_mx hx]; exact hh)
  rwa [mx_sum] at this
 by_cases hz : l = [0, 0, 0, 0]
 ·refine .inl ⟨hz, fun x hx => ?_⟩
  cases hh : hasM ps g x with
  | false => rfl
  | true =>
   have := all x hx hh
   rw [hz] at this
   unfold hasM hasG at hh
   simp only [Bool.and_eq_true,decide_eq_true_eq] at hh
   have : isum x ≤ 0 := this
   omega
 ·refine .inr ⟨hz, ⟨k1, ?_, fun x hx hh => ?_⟩, k2⟩
  ·rcases B.ok with h | h
   ·exact absurd h hz
   ·rw [k2, hasM_mx k1] at h; exact h
  ·have := all x hx hh
   rw [k2, mx_sum] at this
   exact this
set_option maxHeartbeats 4000000 in
theorem c52 {k : Nat} (h : StR H a a' ps gs lots) (hg : gs[k]? = some g) (hL : L ≤ H.size) {M : Nat} (hM : 4500 ≤ M)
  (hq1 : ∀ f H', Fr H H' → (∀ x, LotOk ps x → hasM ps g x = false) → Q f (.tuple ⟨[.slice none 0 0, .int .i64 1]⟩) H')
  (hq2 : ∀ b c l H', Fr H H' → MostR ps g l → Rw intE H' (some ⟨b, 0, none⟩) l → Q false (.tuple ⟨[.slice (some ⟨b, 0, none⟩) l.length c, .int .i64 0]⟩) H') :
  resK (acall tabA (aexec tabA Try.prog M) 52 [.agg ⟨[.slice a ps.length cap, .slice a' gs.length cap', .int .i64 lots]⟩, .int .i64 (k : Nat)] H) L Q := by
 obtain ⟨N, rfl⟩ : ∃ N, M = N + 4500 := ⟨M - 4500, by omega⟩
 have hst := h.st
 have hkl := (List.getElem?_eq_some_iff.1 hg).1
 have hpk := h.pk
 have hgk : g.Ok := h.gd g (List.mem_of_getElem? hg)
 have h4 := hst.l4
 have h1 := hst.l1
 have hg4 := hst.g4
 refine call_keep tabA_fr (k := 34) (rs := [.tmp 4, .tmp 5]) (R := fun v H' => Fr H H' ∧ ((v = .tuple ⟨[.slice none 0 0, .int .i64 1]⟩ ∧ ∀ x, LotOk ps x → hasM ps g x = false) ∨ ∃ b c l, v = .tuple ⟨[.slice (some ⟨b, 0, none⟩) l.length c, .int .i64 0]⟩ ∧ MostR ps g l ∧ Rw intE H' (some ⟨b, 0, none⟩) l)) rfl fn_52 rfl rfl rfl hL ?_ ?_ ?_
 rotate_left
 ·rintro v H' ⟨fr, ⟨rfl, hn⟩ | ⟨b, c, l, rfl, hm, hr⟩⟩
  ·exact hq1 _ _ fr hn
  ·exact hq2 _ _ _ _ fr hm hr
 ·rintro v H' ⟨fr, ⟨rfl, hn⟩ | ⟨b, c, l, rfl, hm, hr⟩⟩ hgr -
  ·exact hq1 _ _ (Fr.refl _) hn
  ·cases hgr
 have hwi : wi (k : Int) 0 ((gs.length : Int) - 1) = true := by unfold wi; simp; omega
 have fr0 : Fr H (H.alloc (.rw [.slice a ps.length cap, .slice a' gs.length cap', .int .i64 lots] 25 false [])) := by (repeat (first | exact Fr.refl _ | assumption | refine Fr.allocd ?_ _ | refine Fr.put ?_ (by first | omega | (simp only [yz] <;> omega)) _))
 have h16 := fun (N : Nat) => c16 (N := N) (cap := cap) (cap' := cap') (lots := lots) (h.hs.fr fr0) (h.hg.fr fr0)
 rw [h.ok] at h16
 have h110 := fun (N : Nat) (H : AHeap) => c110i (N := N) (H := H) (a := a') (cap := cap') hwi (by omega)
 obtain ⟨b, o, c, eb, hb, hc, hqq⟩ := h.hg.at_ hg
 have q : part c (o + k * 2) 3 = some (.agg ⟨g.enc⟩) := part_of hqq rfl
 simp only [Gd.enc] at q
 subst eb
 simp (disch:=first|(simp only [yk,seval];done)|omega|(simp only [yz]<;>omega)|fail) only [↓yp,yq0,yq1,yq2,yq3,yq4,yl,ys0,ys1,seval,fitB,newC,endD,endR,yrg,h16,h110]
 refine W_drawR (pl := [(8, .rw [.int .i64 0, .int .i64 0, .int .i64 0, .int .i64 0] 119 false [])]) [1, 9] [(0, 1), (0, 2), (7, 0), (7, 2), (8, 2), (3, 2), (5, 2), (6, 2)] (planK_of rfl) (by kernel_rfl) (by kernel_rfl) (by kernel_rfl) (by first|omega|(simp only [yz]<;>omega)) ?_
 simp (disch:=first|(simp only [yk,seval];done)|omega|(simp only [yz]<;>omega)|fail) only [↓yp,yq0,yq1,yq2,yq3,yq4,yl,ys0,ys1,seval,fitB,newC,endD,endR,yrg]
 refine c77 (by first|omega|(simp only [yz]<;>omega)) (by omega) ?_
 intro mk H1 fr1 k1 k2 k3
 have f1 := fr1.size
 have s1 := fr1.same
 simp only [size_alloc] at f1 s1 k1
 have fr01 : Fr H H1 := Fr.trans (by repeat first|exact Fr.refl _|assumption|refine Fr.allocd ?_ _|refine Fr.put ?_ (by first|omega|(simp only [yz]<;>omega)) _) fr1
 obtain ⟨l, B, h111⟩ := c111 (N := N + 495) (cap := cap) (a' := some ⟨b, o, none⟩) (cap' := cap') (gs := gs) (lots := lots) (mk := mk) (h.hs.fr fr01) h4 hpk hgk
 simp only [Gd.enc] at h111
 have hl4 : l.length = 4 := by rw [LV_len B.v, stk_len h4]
 obtain ⟨p0, p1, p2, p3, hp⟩ := four hl4
 rcases B.most h4 with ⟨hz, hno⟩ | ⟨hz, hm, hl⟩
 ·rw [hz] at h111
  simp only [tv,List.map_cons,List.map_nil] at h111
  have hd : decide ([(0 : Int), 0, 0, 0] = [0, 0, 0, 0]) = true := rfl
  simp (disch:=first|(simp only [yk,seval];done)|omega|(simp only [yz]<;>omega)|fail) only [↓yp,yq0,yq1,yq2,yq3,yq4,yl,ys0,ys1,seval,fitB,newC,endD,endR,yrg,s1,A_indexSlice st_esS_23,hc,q,h111,newK_alloc]
  simp (disch:=first|(simp only [yk,seval];done)|omega|(simp only [yz]<;>omega)|fail) only [↓yp,yq0,yq1,yq2,yq3,yq4,yl,ys0,ys1,seval,fitB,newC,endD,endR,yrg,s1,A_indexSlice st_esS_23,hc,q,A_buildArr st_baS_119,eqv119,hd]
  exact ⟨Fr.put fr01 (by omega) _, .inl hno⟩
 ·have hd : decide ([p0, p1, p2, p3] = [(0 : Int), 0, 0, 0]) = false := decide_eq_false (by rw [← hp]; exact hz)
  rw [hp] at h111
  simp only [tv,List.map_cons,List.map_nil] at h111
  simp (disch:=first|(simp only [yk,seval];done)|omega|(simp only [yz]<;>omega)|fail) only [↓yp,yq0,yq1,yq2,yq3,yq4,yl,ys0,ys1,seval,fitB,newC,endD,endR,yrg,s1,A_indexSlice st_esS_23,hc,q,h111,newK_alloc]
  simp (disch:=first|(simp only [yk,seval];done)|omega|(simp only [yz]<;>omega)|fail) only [↓yp,yq0,yq1,yq2,yq3,yq4,yl,ys0,ys1,seval,fitB,newC,endD,endR,yrg,s1,A_indexSlice st_esS_23,hc,q,A_buildArr st_baS_119,eqv119,hd]
  simp (disch:=first|(simp only [yk,seval];done)|omega|(simp only [yz]<;>omega)|fail) only [↓yp,yq0,yq1,yq2,yq3,yq4,yl,ys0,ys1,seval,fitB,newC,endD,endR,yrg,lenV_slice st_esS_22]
  refine c98 (l := [p0, p1, p2, p3]) (n := ps.length) rfl h1 h4 (by first|omega|(simp only [yz]<;>omega)) (by omega) ?_
  intro k2 c2 H2 fr2 r2
  have f2 := fr2.size
  simp only [size_put] at f2
  simp (disch:=first|(simp only [yk,seval];done)|omega|(simp only [yz]<;>omega)|fail) only [↓yp,yq0,yq1,yq2,yq3,yq4,yl,ys0,ys1,seval,fitB,newC,endD,endR,yrg]
  rw [← hp] at r2
  exact ⟨Fr.trans (Fr.put fr01 (by omega) _) fr2, .inr ⟨k2, c2, l.take ps.length, by rw [hm.1.len], hm, r2⟩⟩
end
end Go.Am.K
namespace Go.Am.K
open Go.Proofs
variable {T : Tab} {P : Program} {N L : Nat} {H H' H'' : AHeap} {Q : Bool → Value → AHeap → Prop}
theorem st_ixV_119 : ixV tabA 119 = some (4, 1, 0) := by kernel_rfl
section
variable {m0 m1 m2 m3 l0 l1 l2 l3 : Int}
set_option maxHeartbeats 4000000 in
theorem c126 (h0 : 0 ≤ m0 ∧ m0 ≤ 100) (h1 : 0 ≤ m1 ∧ m1 ≤ 100) (h2 : 0 ≤ m2 ∧ m2 ≤ 100) (h3 : 0 ≤ m3 ∧ m3 ≤ 100) (k0 : 0 ≤ l0 ∧ l0 ≤ 100) (k1 : 0 ≤ l1 ∧ l1 ≤ 100) (k2 : 0 ≤ l2 ∧ l2 ≤ 100) (k3 : 0 ≤ l3 ∧ l3 ≤ 100) :
  acall tabA (aexec tabA Try.prog (N + 60)) 126 [.agg ⟨[.int .i64 m0, .int .i64 m1, .int .i64 m2, .int .i64 m3]⟩, .agg ⟨[.int .i64 l0, .int .i64 l1, .int .i64 l2, .int .i64 l3]⟩] H = some (true, .agg ⟨[.int .i64 (m0 - l0), .int .i64 (m1 - l1), .int .i64 (m2 - l2), .int .i64 (m3 - l3)]⟩, H, H.size) := by
 refine call_quiet (k := 20) (rs := [.cell 4 119]) rfl fn_126 rfl rfl rfl ?_ rfl
 have w0 : w64 (m0 - l0) = m0 - l0 := w64_of (by omega)
 have w1 : w64 (m1 - l1) = m1 - l1 := w64_of (by omega)
 have w2 : w64 (m2 - l2) = m2 - l2 := w64_of (by omega)
 have w3 : w64 (m3 - l3) = m3 - l3 := w64_of (by omega)
 have x1 : w64 1 = 1 := w64_of (by omega)
 have x2 : w64 2 = 2 := w64_of (by omega)
 have x3 : w64 3 = 3 := w64_of (by omega)
 have x4 : w64 4 = 4 := w64_of (by omega)
 clear h0 h1 h2 h3 k0 k1 k2 k3
 simp (disch:=first|(simp only [yk,seval];done)|omega|(simp only [yz]<;>omega)|fail) only [↓yp,yq0,yq1,yq2,yq3,yq4,yl,ys0,ys1,seval,fitB,newC,endD,endR,yrg]
 rw [W_loop]
 simp (disch:=first|(simp only [yk,seval];done)|omega|(simp only [yz]<;>omega)|fail) only [↓yp,yq0,yq1,yq2,yq3,yq4,yl,ys0,ys1,seval,fitB,newC,endD,endR,yrg]
 refine A_index_of (k := .i64) (cs := [.int .i64 l0, .int .i64 l1, .int .i64 l2, .int .i64 l3]) (i := 0) st_ixV_119 (by simp (disch:=first|(simp only [yk,seval];done)|omega|(simp only [yz]<;>omega)|fail) only [↓yp,yq0,yq1,yq2,yq3,yq4,yl,ys0,ys1,seval,fitB,newC,endD,endR,yrg]) (by simp (disch:=first|(simp only [yk,seval];done)|omega|(simp only [yz]<;>omega)|fail) only [↓yp,yq0,yq1,yq2,yq3,yq4,yl,ys0,ys1,seval,fitB,newC,endD,endR,yrg]) ⟨by omega, by omega⟩ rfl (by first|omega|(simp only [yz]<;>omega)) ?_
 simp (disch:=first|(simp only [yk,seval];done)|omega|(simp only [yz]<;>omega)|fail) only [↓yp,yq0,yq1,yq2,yq3,yq4,yl,ys0,ys1,seval,fitB,newC,endD,endR,yrg,A_indexArr st_arS_119,w0,x1]
 rw [W_loop]
 simp (disch:=first|(simp only [yk,seval];done)|omega|(simp only [yz]<;>omega)|fail) only [↓yp,yq0,yq1,yq2,yq3,yq4,yl,ys0,ys1,seval,fitB,newC,endD,endR,yrg]
 refine A_index_of (k := .i64) (cs := [.int .i64 l0, .int .i64 l1, .int .i64 l2, .int .i64 l3]) (i := 1) st_ixV_119 (by simp (disch:=first|(simp only [yk,seval];done)|omega|(simp only [yz]<;>omega)|fail) only [↓yp,yq0,yq1,yq2,yq3,yq4,yl,ys0,ys1,seval,fitB,newC,endD,endR,yrg]) (by simp (disch:=first|(simp only [yk,seval];done)|omega|(simp only [yz]<;>omega)|fail) only [↓yp,yq0,yq1,yq2,yq3,yq4,yl,ys0,ys1,seval,fitB,newC,endD,endR,yrg]) ⟨by omega, by omega⟩ rfl (by first|omega|(simp only [yz]<;>omega)) ?_
 simp (disch:=first|(simp only [yk,seval];done)|omega|(simp only [yz]<;>omega)|fail) only [↓yp,yq0,yq1,yq2,yq3,yq4,yl,ys0,ys1,seval,fitB,newC,endD,endR,yrg,A_indexArr st_arS_119,w1,x2]
 rw [W_loop]
 simp (disch:=first|(simp only [yk,seval];done)|omega|(simp only [yz]<;>omega)|fail) only [↓yp,yq0,yq1,yq2,yq3,yq4,yl,ys0,ys1,seval,fitB,newC,endD,endR,yrg]
 refine A_index_of (k := .i64) (cs := [.int .i64 l0, .int .i64 l1, .int .i64 l2, .int .i64 l3]) (i := 2) st_ixV_119 (by simp (disch:=first|(simp only [yk,seval];done)|omega|(simp only [yz]<;>omega)|fail) only [↓yp,yq0,yq1,yq2,yq3,yq4,yl,ys0,ys1,seval,fitB,newC,endD,endR,yrg]) (by simp (disch:=first|(simp only [yk,seval];done)|omega|(simp only [yz]<;>omega)|fail) only [↓yp,yq0,yq1,yq2,yq3,yq4,yl,ys0,ys1,seval,fitB,newC,endD,endR,yrg]) ⟨by omega, by omega⟩ rfl (by first|omega|(simp only [yz]<;>omega)) ?_
 simp (disch:=first|(simp only [yk,seval];done)|omega|(simp only [yz]<;>omega)|fail) only [↓yp,yq0,yq1,yq2,yq3,yq4,yl,ys0,ys1,seval,fitB,newC,endD,endR,yrg,A_indexArr st_arS_119,w2,x3]
 rw [W_loop]
 simp (disch:=first|(simp only [yk,seval];done)|omega|(simp only [yz]<;>omega)|fail) only [↓yp,yq0,yq1,yq2,yq3,yq4,yl,ys0,ys1,seval,fitB,newC,endD,endR,yrg]
 refine A_index_of (k := .i64) (cs := [.int .i64 l0, .int .i64 l1, .int .i64 l2, .int .i64 l3]) (i := 3) st_ixV_119 (by simp (disch:=first|(simp only [yk,seval];done)|omega|(simp only [yz]<;>omega)|fail) only [↓yp,yq0,yq1,yq2,yq3,yq4,yl,ys0,ys1,seval,fitB,newC,endD,endR,yrg]) (by simp (disch:=first|(simp only [yk,seval];done)|omega|(simp only [yz]<;>omega)|fail) only [↓yp,yq0,yq1,yq2,yq3,yq4,yl,ys0,ys1,seval,fitB,newC,endD,endR,yrg]) ⟨by omega, by omega⟩ rfl (by first|omega|(simp only [yz]<;>omega)) ?_
 simp (disch:=first|(simp only [yk,seval];done)|omega|(simp only [yz]<;>omega)|fail) only [↓yp,yq0,yq1,yq2,yq3,yq4,yl,ys0,ys1,seval,fitB,newC,endD,endR,yrg,A_indexArr st_arS_119,w3,x4]
 rw [W_loop]
 simp (disch:=first|(simp only [yk,seval];done)|omega|(simp only [yz]<;>omega)|fail) only [↓yp,yq0,yq1,yq2,yq3,yq4,yl,ys0,ys1,seval,fitB,newC,endD,endR,yrg]
end
section
variable {a a' al : Option Addr} {cap cap' cl mk : Nat} {ps : List Pk} {gs : List Gd} {lots : Int} {g : Gd} {l : List Int} {i k : Nat} {p : Pk} {v : Int}
theorem mx_set (hi : i < l.length) : mx (l.set i v) = (mx l).set i v := by
 unfold mx pt
 rw [List.length_set, List.take_of_length_le (by rw [List.length_set]; exact Nat.le_refl _), List.take_of_length_le (Nat.le_refl _), List.set_append_left _ _ hi]
theorem mx_get (hv : l[i]? = some v) : (mx l)[i]? = some v := by
 have hi := (List.getElem?_eq_some_iff.1 hv).1
 unfold mx pt
 rw [List.take_of_length_le (Nat.le_refl _), List.getElem?_append_left hi]
 exact hv
theorem lot_set (hl : LotOk ps l) (hp : ps[i]? = some p) (hv : 0 ≤ v ∧ v ≤ p.s) : LotOk ps (l.set i v) := by
 refine ⟨by rw [List.length_set]; exact hl.len, fun j n q hn hq => ?_⟩
 by_cases e : i = j
 ·subst e
  have hlt := (List.getElem?_eq_some_iff.1 hn).1
  rw [List.length_set] at hlt
  rw [List.getElem?_set_self hlt] at hn
  cases hn
  rw [hp] at hq
  cases hq
  exact hv
 ·rw [List.getElem?_set_ne e] at hn
  exact hl.ok j n q hn hq
def spF (ps : List Pk) (g : Gd) (l : List Int) (i : Nat) (v : Int) : Nat → Int
 | 0 => -1
 | m + 1 => bif hasM ps g (l.set i (v + m)) then m else spF ps g l i v m
theorem spF_le : ∀ m : Nat, -1 ≤ spF ps g l i v m ∧ spF ps g l i v m < m
 | 0 => by show (-1 : Int) ≤ -1 ∧ (-1 : Int) < ((0 : Nat) : Int); omega
 | m + 1 => by
  have ih := spF_le m
  show -1 ≤ (bif _ then _ else _) ∧ (bif _ then _ else _) < _
  cases hasM ps g (l.set i (v + m))
  ·rw [cond_false]; omega
  ·rw [cond_true]; omega
theorem spF_has : ∀ m : Nat, (∀ j : Nat, j < m → spF ps g l i v m < j → hasM ps g (l.set i (v + j)) = false) ∧ ∀ j : Nat, (j : Int) = spF ps g l i v m → hasM ps g (l.set i (v + j)) = true
 | 0 => ⟨fun j h => by omega, fun j h => by
  have : (j : Int) = -1 := h
  omega⟩
 | m + 1 => by
  obtain ⟨h1, h2⟩ := spF_has m
  have e : spF ps g l i v (m + 1) = bif hasM ps g (l.set i (v + m)) then (m : Int) else spF ps g l i v m := rfl
  cases hA : hasM ps g (l.set i (v + m))
  ·rw [e, hA, cond_false]
   refine ⟨fun j hj hl => ?_, h2⟩
   by_cases ej : j = m
   ·rw [ej]; exact hA
   ·exact h1 j (by omega) hl
  ·rw [e, hA, cond_true]
   refine ⟨fun j hj hl => by omega, fun j hj => ?_⟩
   rw [hj]; exact hA
set_option maxHeartbeats 4000000 in
theorem c113 (hs : Rw pkE H a ps) (h4 : ps.length ≤ 4) (hk : ∀ p ∈ ps, p.Ok) (hg : g.Ok) (hl : LotOk ps l) (hp : ps[i]? = some p) (hv : l[i]? = some v) :
  acall tabA (aexec tabA Try.prog (N + 800)) 113 [.agg ⟨[.slice a ps.length cap, .slice a' gs.length cap', .int .i64 lots, .map (some mk)]⟩, .agg ⟨tv (mx l)⟩, .agg ⟨g.enc⟩, .int .i64 (i : Nat)] H = some (true, .int .i64 (spF ps g l i v (p.s - v + 1).toNat), H, H.size) := by
 refine call_quiet (k := 36) (rs := [.tmp 8]) rfl fn_113 rfl rfl rfl ?_ rfl
 have hlt := (List.getElem?_eq_some_iff.1 hp).1
 have hllt := (List.getElem?_eq_some_iff.1 hv).1
 have hvp := hl.ok i v p hv hp
 have hps := (hk p (List.mem_of_getElem? hp)).s
 have hll := hl.len
 have hm4 : (mx l).length = 4 := mx_len (by omega)
 have hm6 := mx_in (hl.in hk)
 have hs4 := stk_len h4
 have hs6 := stk_in hk
 have h102 := fun (N : Nat) (H' : AHeap) (f : Fr H H') => c102 (N := N) (cap := cap) (g := .slice a' gs.length cap') (lo := .int .i64 lots) (mp := .map (some mk)) (hs.fr f) h4
 obtain ⟨s0, s1, s2, s3, hst⟩ := four hs4
 obtain ⟨q0, q1, q2, q3, hml⟩ := four hm4
 have b0 := hs6 s0 (by rw [hst]; simp)
 have b1 := hs6 s1 (by rw [hst]; simp)
 have b2 := hs6 s2 (by rw [hst]; simp)
 have b3 := hs6 s3 (by rw [hst]; simp)
 have d0 := hm6 q0 (by rw [hml]; simp)
 have d1 := hm6 q1 (by rw [hml]; simp)
 have d2 := hm6 q2 (by rw [hml]; simp)
 have d3 := hm6 q3 (by rw [hml]; simp)
 have h126 := fun (N : Nat) (H : AHeap) => c126 (N := N) (H := H) (m0 := s0) (m1 := s1) (m2 := s2) (m3 := s3) (l0 := q0) (l1 := q1) (l2 := q2) (l3 := q3) (by omega) (by omega) (by omega) (by omega) (by omega) (by omega) (by omega) (by omega)
 have hroom : ([.int .i64 (s0 - q0), .int .i64 (s1 - q1), .int .i64 (s2 - q2), .int .i64 (s3 - q3)] : List Value)[i]? = some (.int .i64 (p.s - v)) := by
  have e1 : (stk ps)[i]? = some p.s := by
   rw [stk_eq, List.getElem?_append_left (by rw [List.length_map]; exact hlt), List.getElem?_map, hp]; rfl
  have e2 := mx_get hv
  rw [hst] at e1
  rw [hml] at e2
  rcases (by omega : i = 0 ∨ i = 1 ∨ i = 2 ∨ i = 3) with rfl | rfl | rfl | rfl
  all_goals
   simp only [List.getElem?_cons_zero,List.getElem?_cons_succ,Option.some.injEq] at e1 e2 ⊢
   rw [e1, e2]
 rw [hst] at h102
 simp only [tv,List.map_cons,List.map_nil] at h102
 have hmv : tv (mx l) = [.int .i64 q0, .int .i64 q1, .int .i64 q2, .int .i64 q3] := by rw [hml]; rfl
 have w1 : w64 (p.s - v + 1) = p.s - v + 1 := w64_of (by omega)
 rw [hmv]
 simp (disch:=first|(simp only [yk,seval];done)|omega|(simp only [yz]<;>omega)|fail) only [↓yp,yq0,yq1,yq2,yq3,yq4,yl,ys0,ys1,seval,fitB,newC,endD,endR,yrg,Gd.enc,one_map,one_map']
 refine W_gen (fun e1 H1 => gt 36 e1 3 = .int .i64 (i : Nat) ∧ gt 36 e1 4 = .pointer (some ⟨H.size, 0, none⟩) ∧ gt 36 e1 5 = .pointer (some ⟨H.size + 1, 0, none⟩) ∧ gt 36 e1 6 = .pointer (some ⟨H.size + 1 + 1, 0, none⟩) ∧ Fr H H1 ∧ H1.size = H.size + 3 ∧ H1.get H.size = .rw [.slice a ps.length cap, .slice a' gs.length cap', .int .i64 lots, .map (some mk)] 124 false [] ∧ H1.get (H.size + 1) = .rw [.int .i64 q0, .int .i64 q1, .int .i64 q2, .int .i64 q3] 119 false [] ∧ H1.get (H.size + 1 + 1) = .rw [.int .i64 g.fo, .int .i64 g.pr] 77 false []) ⟨?_, ?_, ?_, ?_, ?_, ?_, ?_, ?_, ?_⟩ ?_
 ·simp (disch:=first|(simp only [yk,seval];done)|omega|(simp only [yz]<;>omega)|fail) only [yg,seval]
 ·simp (disch:=first|(simp only [yk,seval];done)|omega|(simp only [yz]<;>omega)|fail) only [yg,seval]
 ·simp (disch:=first|(simp only [yk,seval];done)|omega|(simp only [yz]<;>omega)|fail) only [yg,seval]
 ·simp (disch:=first|(simp only [yk,seval];done)|omega|(simp only [yz]<;>omega)|fail) only [yg,seval]
 ·(repeat (first | exact Fr.refl _ | assumption | refine Fr.allocd ?_ _ | refine Fr.put ?_ (by first | omega | (simp only [yz] <;> omega)) _))
 ·(first | omega | (simp only [yz] <;> omega))
 ·simp (disch:=first|(simp only [yk,seval];done)|omega|(simp only [yz]<;>omega)|fail) only [yg,seval]
 ·simp (disch:=first|(simp only [yk,seval];done)|omega|(simp only [yz]<;>omega)|fail) only [yg,seval]
 ·simp (disch:=first|(simp only [yk,seval];done)|omega|(simp only [yz]<;>omega)|fail) only [yg,seval]
 rintro e1 H1 ⟨g3, g4, g5, g6, fr1, sz1, c4, c5, c6⟩
 have h102a := fun (N : Nat) => h102 N H1 fr1
 have h102b := fun (N : Nat) (blk : ABlk) => h102 N (H1.alloc blk) (fr1.allocd _)
 have h102c := fun (N : Nat) (blk blk' : ABlk) => h102 N ((H1.alloc blk).put H1.size blk') (Fr.put (fr1.allocd _) (by omega) _)
 refine W_draw [4, 6] rfl (by kernel_rfl) (by kernel_rfl) (by omega) ?_
 simp (disch:=first|(simp only [yk,seval];done)|omega|(simp only [yz]<;>omega)|fail) only [↓yp,yq0,yq1,yq2,yq3,yq4,yl,ys0,ys1,seval,fitB,newC,endD,endR,yrg,g4,g5,c4,c5,h102a,h102b,h102c,h126,sv_map]
 have hi4 : i < 4 := by omega
 have hfit : decide (i ≤ 3) = true := by simp; omega
 simp (disch:=first|(simp only [yk,seval];done)|omega|(simp only [yz]<;>omega)|fail) only [↓yp,yq0,yq1,yq2,yq3,yq4,yl,ys0,ys1,seval,fitB,newC,endD,endR,yrg,g3,A_indexArr st_arS_119,hroom,hfit,w1]
 obtain ⟨cnt, hcnt⟩ : ∃ cnt, p.s - v + 1 = cnt := ⟨_, rfl⟩
 rw [hcnt]
 have e0 : (mx l).set i (v + ((0 : Nat) : Int)) = mx l := by
  apply List.ext_getElem?
  intro j
  by_cases e : i = j
  ·subst e
   rw [List.getElem?_set_self (by omega), mx_get hv, show v + ((0 : Nat) : Int) = v from Int.add_zero v]
  ·rw [List.getElem?_set_ne e]
 refine W_while (n := 36) 700 (fun q e' H' => ∃ m : Nat, q = (cnt - m).toNat ∧ (m : Int) ≤ cnt ∧ gt 36 e' 20 = .int .i64 (m : Nat) ∧ gt 36 e' 19 = .int .i64 cnt ∧ gt 36 e' 3 = .int .i64 (i : Nat) ∧ gt 36 e' 4 = .pointer (some ⟨H.size, 0, none⟩) ∧ gt 36 e' 5 = .pointer (some ⟨H.size + 1, 0, none⟩) ∧ gt 36 e' 6 = .pointer (some ⟨H.size + 1 + 1, 0, none⟩) ∧ gt 36 e' 9 = .int .i64 (spF ps g l i v m) ∧ Fr H H' ∧ H.size + 1 + 1 < H'.size ∧
   H'.get H.size = .rw [.slice a ps.length cap, .slice a' gs.length cap', .int .i64 lots, .map (some mk)] 124 false [] ∧ H'.get (H.size + 1) = .rw (tv ((mx l).set i (v + m))) 119 false [] ∧ H'.get (H.size + 1 + 1) = .rw [.int .i64 g.fo, .int .i64 g.pr] 77 false [])
  ?_ 8 cnt.toNat ⟨0, by omega, by omega, ?_, ?_, ?_, ?_, ?_, ?_, ?_, by (repeat (first | exact Fr.refl _ | assumption | refine Fr.allocd ?_ _ | refine Fr.put ?_ (by first | omega | (simp only [yz] <;> omega)) _)), by (first | omega | (simp only [yz] <;> omega)), ?_, ?_, ?_⟩ (by omega) (by omega)
 rotate_left
 ·simp (disch:=first|(simp only [yk,seval];done)|omega|(simp only [yz]<;>omega)|fail) only [yg,seval] <;> rfl
 ·simp (disch:=first|(simp only [yk,seval];done)|omega|(simp only [yz]<;>omega)|fail) only [yg,seval]
 ·simp (disch:=first|(simp only [yk,seval];done)|omega|(simp only [yz]<;>omega)|fail) only [yg,seval,g3]
 ·simp (disch:=first|(simp only [yk,seval];done)|omega|(simp only [yz]<;>omega)|fail) only [yg,seval,g4]
 ·simp (disch:=first|(simp only [yk,seval];done)|omega|(simp only [yz]<;>omega)|fail) only [yg,seval,g5]
 ·simp (disch:=first|(simp only [yk,seval];done)|omega|(simp only [yz]<;>omega)|fail) only [yg,seval,g6]
 ·simp (disch:=first|(simp only [yk,seval];done)|omega|(simp only [yz]<;>omega)|fail) only [yg,seval] <;> rfl
 ·simp (disch:=first|(simp only [yk,seval];done)|omega|(simp only [yz]<;>omega)|fail) only [yg,seval]; exact c4
 ·simp (disch:=first|(simp only [yk,seval];done)|omega|(simp only [yz]<;>omega)|fail) only [yg,seval]; first | rw [e0, hmv] | rw [show (mx l).set i (v + 0) = mx l from e0, hmv]
  exact c5
 ·simp (disch:=first|(simp only [yk,seval];done)|omega|(simp only [yz]<;>omega)|fail) only [yg,seval]; exact c6
 clear h126 hroom h102c h102b h102a h102 b0 b1 b2 b3 d0 d1 d2 d3 hs6 hs4 hst g3 g4 g5 g6 c4 c5 c6
 rintro M1 q e' H2 ⟨m, rfl, hmc, k20, k19, k3, k4, k5, k6, k9, fr, lt, c4, c5, c6⟩
 simp (disch:=first|(simp only [yk,seval];done)|omega|(simp only [yz]<;>omega)|fail) only [↓yp,yq0,yq1,yq2,yq3,yq4,yl,ys0,ys1,seval,fitB,newC,endD,endR,yrg,k20,k19]
 refine ⟨fun hA => ?_, fun hA => ?_⟩
 ·have hlk : (m : Int) < cnt := of_decide_eq_true hA
  have hw2 : w64 ((m : Int) + 1) = ((m + 1 : Nat) : Int) := by rw [w64_of (by omega)]; omega
  have hw3 : w64 (v + (m : Int) + 1) = v + ((m + 1 : Nat) : Int) := by rw [w64_of (by omega)]; omega
  obtain ⟨t, ht⟩ : ∃ t, (mx l).set i (v + (m : Int)) = t := ⟨_, rfl⟩
  have hlo : LotOk ps (l.set i (v + m)) := lot_set hl hp (by omega)
  have htm : mx (l.set i (v + (m : Int))) = t := by rw [mx_set hllt, ht]
  have t4 : t.length = 4 := by rw [← ht, List.length_set, hm4]
  have t6 : ∀ n ∈ t, 0 ≤ n ∧ n ≤ 6 := by rw [← htm]; exact mx_in (hlo.in hk)
  have tp : part (tv t) 0 5 = some (.agg ⟨tv t⟩) := part_tv t4
  have tl : (tv t).length = 4 := by rw [tv_len, t4]
  have ti : (tv t)[i]? = some (.int .i64 (v + m)) := tv_at (by rw [← ht, List.getElem?_set_self (by omega)])
  have tn : newC i [.int .i64 (v + ((m + 1 : Nat) : Int))] (tv t) = tv ((mx l).set i (v + ((m + 1 : Nat) : Int))) := by rw [newC_tv (by omega), ← ht, List.set_set]
  have st := isum_le (l := t) (m := 6) t6
  rw [t4] at st
  have sf := isum_le (l := fo false ps t) (m := 12) fun y hy => fo_mem hk t6 hy
  rw [fo_len (by omega)] at sf
  have h120 := fun (N : Nat) => c120 (N := N) (cap := cap) (g := .slice a' gs.length cap') (lo := .int .i64 lots) (mp := .map (some mk)) (hs.fr fr) h4 hk t4 t6 sv_slice sv_int sv_map
  have h121 := fun (N : Nat) (H : AHeap) => c121 (N := N) (H := H) (sz := isum t) (fl := isum (fo false ps t)) (g := g) (by omega) (by omega) hg.1
  have hha : hasG (isum t) (isum (fo false ps t)) g = hasM ps g (l.set i (v + m)) := by rw [← hasM_mx hlo, htm]; rfl
  simp only [Gd.enc] at h121
  rw [hha] at h121
  have hst2 := fun n => sl_tv (n := n) t
  have hsp : spF ps g l i v (m + 1) = bif hasM ps g (l.set i (v + m)) then (m : Int) else spF ps g l i v m := rfl
  rw [ht] at c5
  obtain ⟨u, hu⟩ : ∃ u, tv t = u := ⟨_, rfl⟩
  rw [hu] at c5 tp tl ti tn h120 hst2
  simp (disch:=first|(simp only [yk,seval];done)|omega|(simp only [yz]<;>omega)|fail) only [↓yp,yq0,yq1,yq2,yq3,yq4,yl,ys0,ys1,seval,fitB,newC,endD,endR,yrg,k20]
  refine W_draw [] rfl (by kernel_rfl) (by kernel_rfl) (by omega) ?_
  cases hH : hasM ps g (l.set i (v + m))
  ·rw [hH] at h121 hsp
   rw [cond_false] at hsp
   simp (disch:=first|(simp only [yk,seval];done)|omega|(simp only [yz]<;>omega)|fail) only [↓yp,yq0,yq1,yq2,yq3,yq4,yl,ys0,ys1,seval,fitB,newC,endD,endR,yrg,k20,k3,k4,k5,k6,c4,c5,c6,tp,h120,h121,hst2,sv_map,A_indexArr st_arS_119,ti,tl,hfit,hw3,tn,hw2]
   refine ⟨(cnt - (m + 1 : Nat)).toNat, by omega, m + 1, rfl, by omega, ?_, ?_, ?_, ?_, ?_, ?_, ?_, by (repeat (first | exact Fr.refl _ | assumption | refine Fr.allocd ?_ _ | refine Fr.put ?_ (by first | omega | (simp only [yz] <;> omega)) _)), by (first | omega | (simp only [yz] <;> omega)), ?_, ?_, ?_⟩
   ·simp (disch:=first|(simp only [yk,seval];done)|omega|(simp only [yz]<;>omega)|fail) only [yg,seval]
   ·simp (disch:=first|(simp only [yk,seval];done)|omega|(simp only [yz]<;>omega)|fail) only [yg,seval,k19]
   ·simp (disch:=first|(simp only [yk,seval];done)|omega|(simp only [yz]<;>omega)|fail) only [yg,seval,k3]
   ·simp (disch:=first|(simp only [yk,seval];done)|omega|(simp only [yz]<;>omega)|fail) only [yg,seval,k4]
   ·simp (disch:=first|(simp only [yk,seval];done)|omega|(simp only [yz]<;>omega)|fail) only [yg,seval,k5]
   ·simp (disch:=first|(simp only [yk,seval];done)|omega|(simp only [yz]<;>omega)|fail) only [yg,seval,k6]
   ·rw [hsp]; simp (disch:=first|(simp only [yk,seval];done)|omega|(simp only [yz]<;>omega)|fail) only [yg,seval,k9]
   ·rw [get_put_ne (by omega)]; exact c4
   ·rw [get_put_same (by omega), ← tn]; rfl
   ·rw [get_put_ne (by omega)]; exact c6
  ·rw [hH] at h121 hsp
   rw [cond_true] at hsp
   simp (disch:=first|(simp only [yk,seval];done)|omega|(simp only [yz]<;>omega)|fail) only [↓yp,yq0,yq1,yq2,yq3,yq4,yl,ys0,ys1,seval,fitB,newC,endD,endR,yrg,k20,k3,k4,k5,k6,c4,c5,c6,tp,h120,h121,hst2,sv_map,A_indexArr st_arS_119,ti,tl,hfit,hw3,tn,hw2]
   refine ⟨(cnt - (m + 1 : Nat)).toNat, by omega, m + 1, rfl, by omega, ?_, ?_, ?_, ?_, ?_, ?_, ?_, by (repeat (first | exact Fr.refl _ | assumption | refine Fr.allocd ?_ _ | refine Fr.put ?_ (by first | omega | (simp only [yz] <;> omega)) _)), by (first | omega | (simp only [yz] <;> omega)), ?_, ?_, ?_⟩
   ·simp (disch:=first|(simp only [yk,seval];done)|omega|(simp only [yz]<;>omega)|fail) only [yg,seval]
   ·simp (disch:=first|(simp only [yk,seval];done)|omega|(simp only [yz]<;>omega)|fail) only [yg,seval,k19]
   ·simp (disch:=first|(simp only [yk,seval];done)|omega|(simp only [yz]<;>omega)|fail) only [yg,seval,k3]
   ·simp (disch:=first|(simp only [yk,seval];done)|omega|(simp only [yz]<;>omega)|fail) only [yg,seval,k4]
   ·simp (disch:=first|(simp only [yk,seval];done)|omega|(simp only [yz]<;>omega)|fail) only [yg,seval,k5]
   ·simp (disch:=first|(simp only [yk,seval];done)|omega|(simp only [yz]<;>omega)|fail) only [yg,seval,k6]
   ·rw [hsp]; simp (disch:=first|(simp only [yk,seval];done)|omega|(simp only [yz]<;>omega)|fail) only [yg,seval]
   ·rw [get_put_ne (by omega)]; exact c4
   ·rw [get_put_same (by omega), ← tn]; rfl
   ·rw [get_put_ne (by omega)]; exact c6
 ·have hke : cnt.toNat = m := by have := of_decide_eq_false hA; omega
  rw [hke]
  simp (disch:=first|(simp only [yk,seval];done)|omega|(simp only [yz]<;>omega)|fail) only [↓yp,yq0,yq1,yq2,yq3,yq4,yl,ys0,ys1,seval,fitB,newC,endD,endR,yrg,k9]
theorem c53 (h : LtR H a a' al ps gs lots l) (hg : gs[k]? = some g) (hp : ps[i]? = some p) (hv : l[i]? = some v) :
  acall tabA (aexec tabA Try.prog (N + 1000)) 53 [.agg ⟨[.slice a ps.length cap, .slice a' gs.length cap', .int .i64 lots]⟩, .slice al l.length cl, .int .i64 (k : Nat), .int .i64 (i : Nat)] H = some (true, (bif decide (spF ps g l i v (p.s - v + 1).toNat = -1) then .tuple ⟨[.int .i64 0, .int .i64 1]⟩ else .tuple ⟨[.int .i64 (spF ps g l i v (p.s - v + 1).toNat), .int .i64 0]⟩), H, H.size) := by
 refine call_quiet (k := 44) (rs := [.tmp 8, .tmp 9]) rfl fn_53 rfl rfl rfl ?_ (by cases decide (spF ps g l i v (p.s - v + 1).toNat = -1) <;> rfl)
 have hkl := (List.getElem?_eq_some_iff.1 hg).1
 have hil := (List.getElem?_eq_some_iff.1 hp).1
 have h4 := h.st.st.l4
 have hg4 := h.st.st.g4
 have hgk : g.Ok := h.st.gd g (List.mem_of_getElem? hg)
 have hwk : wi (k : Int) 0 ((gs.length : Int) - 1) = true := by unfold wi; simp; omega
 have hwi' : wi (i : Int) 0 ((ps.length : Int) - 1) = true := by unfold wi; simp; omega
 have fr : Fr H (H.alloc (.rw [.slice a ps.length cap, .slice a' gs.length cap', .int .i64 lots] 25 false [])) := by (repeat (first | exact Fr.refl _ | assumption | refine Fr.allocd ?_ _ | refine Fr.put ?_ (by first | omega | (simp only [yz] <;> omega)) _))
 have h0 := h.fr fr
 have h74 := fun (N : Nat) => c74 (N := N) (cap := cap) (cap' := cap') (cl := cl) h0.st h0.rl h.lo
 have h110 := fun (N : Nat) (H : AHeap) => c110i (N := N) (H := H) (a := a') (cap := cap') hwk (by omega)
 have h112 := fun (N : Nat) (H : AHeap) => c112i (N := N) (H := H) (a := a) (cap := cap) hwi' (by omega)
 obtain ⟨b, o, c, eb, hb, hc, hqq⟩ := h.st.hg.at_ hg
 have q : part c (o + k * 2) 3 = some (.agg ⟨g.enc⟩) := part_of hqq rfl
 simp only [Gd.enc] at q
 subst eb
 simp (disch:=first|(simp only [yk,seval];done)|omega|(simp only [yz]<;>omega)|fail) only [↓yp,yq0,yq1,yq2,yq3,yq4,yl,ys0,ys1,seval,fitB,newC,endD,endR,yrg,h74,h110,h112]
 refine W_draw [1] rfl (by kernel_rfl) (by kernel_rfl) (by first|omega|(simp only [yz]<;>omega)) ?_
 simp (disch:=first|(simp only [yk,seval];done)|omega|(simp only [yz]<;>omega)|fail) only [↓yp,yq0,yq1,yq2,yq3,yq4,yl,ys0,ys1,seval,fitB,newC,endD,endR,yrg]
 refine c77 (by first|omega|(simp only [yz]<;>omega)) (by omega) ?_
 intro mk H1 fr1 k1 k2 k3
 have f1 := fr1.size
 have s1 := fr1.same
 simp only [size_alloc] at f1 s1 k1
 have hh := h0.fr fr1
 have h75 := fun (N : Nat) => c75 (N := N) (cl := cl) h0.rl h.l1 h.l4
 have h75' := fun (N : Nat) => c75 (N := N) (cl := cl) hh.rl h.l1 h.l4
 have h113 := fun (N : Nat) => c113 (N := N) (cap := cap) (a' := some ⟨b, o, none⟩) (cap' := cap') (gs := gs) (lots := lots) (mk := mk) h0.st.hs h4 h.st.pk hgk h.lo hp hv
 have h113' := fun (N : Nat) => c113 (N := N) (cap := cap) (a' := some ⟨b, o, none⟩) (cap' := cap') (gs := gs) (lots := lots) (mk := mk) hh.st.hs h4 h.st.pk hgk h.lo hp hv
 have hst := fun n => sl_tv (n := n) (mx l)
 simp only [Gd.enc] at h113 h113'
 obtain ⟨sp, hsp⟩ : ∃ sp, spF ps g l i v (p.s - v + 1).toNat = sp := ⟨_, rfl⟩
 rw [hsp] at h113 h113' ⊢
 obtain ⟨t, ht⟩ : ∃ t, tv (mx l) = t := ⟨_, rfl⟩
 rw [ht] at h75 h75' h113 h113' hst
 cases hD : decide (sp = -1)
 ·simp (disch:=first|(simp only [yk,seval];done)|omega|(simp only [yz]<;>omega)|fail) only [↓yp,yq0,yq1,yq2,yq3,yq4,yl,ys0,ys1,seval,fitB,newC,endD,endR,yrg,s1,A_indexSlice st_esS_23,hc,q,h75,h75',h113,h113',hst,hD]
 ·simp (disch:=first|(simp only [yk,seval];done)|omega|(simp only [yz]<;>omega)|fail) only [↓yp,yq0,yq1,yq2,yq3,yq4,yl,ys0,ys1,seval,fitB,newC,endD,endR,yrg,s1,A_indexSlice st_esS_23,hc,q,h75,h75',h113,h113',hst,hD]
end
end Go.Am.K
