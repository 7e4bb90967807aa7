import Derived.Test.YtaieoelbpnjoiaaT42
set_option linter.unusedSimpArgs false
set_option linter.unusedVariables false
namespace Go.Am
open Go.Proofs
variable {T : Tab} {P : Program} {N L : Nat} {H : AHeap} {Q : Bool → Value → AHeap → Prop}
theorem tm_look {ty : TypeId} {x y : Operand} {b : Bool} : tmpsOf (Op.operands (.lookup ty x y b)).toList = tmpsOf [x, y] := nr rfl
theorem A_fld {ex : Exec} {t : Operand → Option Value} {x : Operand} {a : Arv} (hx : t x = some (av a)) (hL : L ≤ H.size) (hq : Q true (.int .i64 a.m) H) : A tabA Try.prog ex t H L (.field 168 x 0) Q := by
 unfold A
 show (match still (aField tabA t H 168 x 0) with
  | some (b, v, H', m) => L ≤ m ∧ Q b v H'
  | none => False)
 have : aField tabA t H 168 x 0 = some (.int .i64 a.m, H, H.size) := by
  unfold aField
  rw [hx]
  kernel_rfl
 rw [this]
 exact ⟨hL, hq⟩
theorem tm_fld {ty : TypeId} {x : Operand} {f : Nat} : tmpsOf (Op.operands (.field ty x f)).toList = tmpsOf [x] := nr rfl
section
variable {H₀ Ha H' H'' : AHeap} {l : List Str} {C w ld a₀ : Int} {a : Option Addr} {sv : Value} {cap km kd k4 k7 k10 k12 k14 : Nat} {bt : Nat → Int} {dn : Int → Nat → Int} {S : List Stt} {s₀ here : Stt} {st st' : Ex} {own own' : Nat → List Nat} {e e' : VT} {h : Arv} {k base : Nat}
theorem EXr.old (E : EXr H₀.size a₀ H km kd st own) (f0 : Fr H₀ H) (fe : FrE H H' km kd own own' k) : Fr H₀ H' where
 size := Nat.le_trans f0.size fe.size
 same q hq := by
  have h1 := E.km0
  have h2 := E.kd0
  rw [fe.same q (Nat.lt_of_lt_of_le hq f0.size) (by omega) (by omega) (fun t ht hm => by have := (E.ownb t ht q hm).1; omega)]
  exact f0.same q hq
theorem EXr.ownb' (E : EXr base a₀ H km kd st own) (fe : FrE H H' km kd own own' k) {q : Nat} (hq : q < H.size) (hn : ∀ t < 241, q ∉ own t) : ∀ t < 241, q ∉ own' t := fun t ht hm => by
 rcases fe.grow t ht q hm with h | h
 ·exact hn t ht h
 ·omega
theorem EXr.down {own1 own2 : Nat → List Nat} {st1 st2 : Ex} (E1 : EXr base a₀ H km kd st1 own1) (E2 : EXr base a₀ H' km kd st2 own2) (f : Fr H H') : EXr base a₀ H km kd st2 own1 where
 mp := by rw [← f.same km E1.km1]; exact E2.mp
 km0 := E1.km0
 km1 := E1.km1
 kd0 := E1.kd0
 kd1 := E1.kd1
 ne := E1.ne
 arr := by
  obtain ⟨vs, h1, h2, h3⟩ := E1.arr
  obtain ⟨vs', h1', h2', h3'⟩ := E2.arr
  rw [f.same kd E1.kd1, h1] at h1'
  cases h1'
  refine ⟨vs, h1, h2, fun t ht => ?_⟩
  obtain ⟨v, q1, q2⟩ := h3 t ht
  obtain ⟨v', q1', q2'⟩ := h3' t ht
  rw [q1] at q1'
  cases q1'
  refine ⟨v, q1, q2'.nil, fun hne => ?_⟩
  obtain ⟨b, cp, r1, r2, r3, r4⟩ := q2'.cons hne
  have hne1 : st1.D t ≠ [] := fun h => by
   have := q2.nil h
   rw [this] at r1
   cases r1
  obtain ⟨b1, cp1, p1, p2, p3, p4⟩ := q2.cons hne1
  rw [p1] at r1
  simp only [Value.slice.injEq,Option.some.injEq,Addr.mk.injEq] at r1
  obtain ⟨⟨rfl, -⟩, hlen, rfl⟩ := r1
  have hg := f.same _ (E1.ownb t ht _ p2).2.1
  rw [hg] at r3 r4
  refine ⟨_, cp1, by rw [p1, hlen], p2, r3, ?_⟩
  rcases p4 with h | ⟨al1, s1, s2, s3⟩
  ·exact .inl h
  ·rcases r4 with h | ⟨al, t1, t2, t3⟩
   ·exact .inl h
   ·rw [s3] at t3
    simp only [ABlk.rw.injEq] at t3
    obtain ⟨e1, -, -, rfl⟩ := t3
    exact .inr ⟨al1, s1, s2, by rw [s3, e1]⟩
 disj := E1.disj
 ownb := E1.ownb
def endQ (n : Nat) (I : VT → AHeap → List Nat → Prop) (x : Exit) (s : ES) : Prop := match x with
 | .normal => s.n = n ∧ I s.e s.H s.ds
 | _ => False
theorem endQ_mk {n : Nat} {I : VT → AHeap → List Nat → Prop} {e : VT} {H : AHeap} {ds : List Nat} (h : I e H ds) : endQ n I .normal ⟨n, e, H, ds⟩ := ⟨rfl, h⟩
theorem W_endQ {n : Nat} {c : Code} {e : VT} {ds : List Nat} {r : Option Nat} {Q : Exit → ES → Prop} {I : VT → AHeap → List Nat → Prop} (h : W T P N r c L ⟨n, e, H, ds⟩ (endQ n I)) (hq : ∀ e' H' ds', I e' H' ds' → Q .normal ⟨n, e', H', ds'⟩) : W T P N r c L ⟨n, e, H, ds⟩ Q := by
 refine W_mono h ?_
 intro x' s' h
 cases x' with
 | normal =>
  obtain ⟨n', e', H', ds'⟩ := s'
  obtain ⟨h1, h2⟩ := h
  simp only at h1
  subst h1
  exact hq _ _ _ h2
 | _ => exact h.elim
def DfB (Ha H'' : AHeap) (km kd : Nat) (own' : Nat → List Nat) (ds ds' : List Nat) : Prop := ds' = ds ∨ ∃ q, ds' = q :: ds ∧ Ha.size ≤ q ∧ q < H''.size ∧ H''.get q = .defer ∧ q ≠ km ∧ q ≠ kd ∧ ∀ t < 241, q ∉ own' t
structure LJ (H₀ H6 : AHeap) (l : List Str) (w ld a₀ : Int) (dn : Int → Nat → Int) (s₀ : Stt) (S : List Stt) (km kd k : Nat) (own : Nat → List Nat) (here : Stt) (h : Arv) (st : Ex) (H'' : AHeap) : Prop where
 ex : ∃ own', EXr H₀.size a₀ H'' km kd st own' ∧ FrE H6 H'' km kd own own' k ∧ ∀ t < 241, ∀ q ∈ own' t, q ≠ H6.size ∧ q ≠ H6.size + 1
 sz : H6.size + 2 ≤ H''.size
 inv : ExI l w ld (nxt dn) s₀ a₀ S k st
 hh : flk st.F here = some h
set_option maxHeartbeats 4000000 in
set_option maxRecDepth 10000 in
theorem c120h {bk n j : Nat} {ds : List Nat} (X : ExC H₀ l C w ld a cap sv bt dn S) (hS : StS l (nxt dn) s₀ S) (h0 : 0 ≤ a₀ ∧ a₀ ≤ 240) (f0 : Fr H₀ Ha) (E : EXr H₀.size a₀ Ha km kd st own) (I : ExI l w ld (nxt dn) s₀ a₀ S k st) (hd : here ∈ st.D k)
  (g4 : gt 110 e 4 = .pointer (some ⟨k4, 0, none⟩)) (g7 : gt 110 e 7 = .pointer (some ⟨k7, 0, none⟩)) (g10 : gt 110 e 10 = .pointer (some ⟨k10, 0, none⟩)) (g11 : gt 110 e 11 = .pointer (some ⟨kd, 0, none⟩)) (g12 : gt 110 e 12 = .pointer (some ⟨k12, 0, none⟩))
  (b4 : Ha.get k4 = .rw [.int .i64 C, .slice a l.length cap, .int .i64 w, .int .i64 ld, .int .i64 (-1)] 124 false []) (b7 : Ha.get k7 = .rw [sv] 52 false []) (b10 : Ha.get k10 = .rw [.map (some km)] 163 false []) (b12 : Ha.get k12 = .rw [.int .i64 (k : Nat)] 3 false [])
  (hno : ∀ q, q = k4 ∨ q = k7 ∨ q = k10 ∨ q = k12 → q < Ha.size ∧ q ≠ km ∧ q ≠ kd ∧ ∀ t < 241, q ∉ own t)
  {cp : Nat} (g38 : gt 110 e 38 = .slice (some ⟨bk, 0, none⟩) n cp) (g40 : gt 110 e 40 = .int .i64 (j : Nat)) (hj : j < n) {c : List Value} (bkc : cellsOf (Ha.get bk) = some c) (hp : part c (j * 2) 3 = some (kv here)) (hk : k ≤ 240) (hL : L ≤ H₀.size) :
  W tabA Try.prog (N + 1100) none (sub [true, true, true, true, true, false, true, false, false, true, true, false, false, true, true, false, false, true, true, false] (bodyOf Try.f120)) L ⟨110, e, Ha, ds⟩ (endQ 110 fun e' H'' ds' => Keep 110 [4, 7, 10, 11, 12, 38, 39, 40, 33] e e' ∧ ∃ own', EXr H₀.size a₀ H'' km kd (procHere l w ld (nxt dn) k st here) own' ∧ FrE Ha H'' km kd own own' k ∧ DfB Ha H'' km kd own' ds ds') := by
 have sz0 := f0.size
 obtain ⟨l4, n4⟩ := hno k4 (.inl rfl)
 obtain ⟨l7, n7⟩ := hno k7 (.inr (.inl rfl))
 obtain ⟨l10, n10⟩ := hno k10 (.inr (.inr (.inl rfl)))
 obtain ⟨l12, n12⟩ := hno k12 (.inr (.inr (.inr rfl)))
 have hkm1 := E.km1
 have hkd1 := E.kd1
 have hkm0 := E.km0
 have hkd0 := E.kd0
 simp only [kv] at hp
 simp only [Try.f120,bodyOf,sub_nil,sub_seq0,sub_seq1,sub_block,sub_loop,sub_cond0,sub_cond1]
 rw [zah]
 refine W_seqI (fun e' H'' => Keep 110 [4, 7, 10, 11, 12, 38, 39, 40, 33] e e' ∧ gt 110 e' 14 = .pointer (some ⟨Ha.size, 0, none⟩) ∧ Fr Ha H'' ∧ H''.size = Ha.size + 1 ∧ H''.get Ha.size = .rw [.int .i64 here.1, .int .u64 here.2] 166 false []) ?_ ?_
 ·simp (disch:=first|(simp only [yk,seval];done)|omega|(simp only [yz]<;>omega)|fail) only [↓yp,yq0,yq1,yq2,yq3,yq4,yl,ys0,ys1,seval,zed,zee,zfr,zhw,ysu,yrg,ysv,ysw,ysx,ysz,g38,g40,A_indexSlice st_esS_177,bkc,hp]
  refine ⟨by (with_reducible repeat first|refine Keep.put ?_ (by decide)|refine Keep.none ?_|assumption|exact Keep.refl _ _ _), ?_, by (repeat (first | exact Fr.refl _ | assumption | refine Fr.allocd ?_ _ | refine Fr.put ?_ (by first | omega | (simp only [yz] <;> omega)) _)), by (first | omega | (simp only [yz] <;> omega)), zdc (by first|omega|(simp only [yz]<;>omega))⟩
  simp (disch:=first|(simp only [yk,seval];done)|omega|(simp only [yz]<;>omega)|fail) only [yg,seval]
 rintro e1 H1 ⟨k1, g14, f1, sz1, b14⟩
 obtain ⟨h, hh, hle⟩ := I.had k here hd
 have ho : orZero (flk st.F here) = h := by rw [hh]; rfl
 refine W_seqI (fun e' H'' => ¬ h.m < k ∧ Keep 110 [4, 7, 10, 11, 12, 38, 39, 40, 33] e e' ∧ gt 110 e' 14 = .pointer (some ⟨Ha.size, 0, none⟩) ∧ H1 = H'') ?_ ?_
 ·have q10 := (k1 10 (by simp)).trans g10
  have q12 := (k1 12 (by simp)).trans g12
  have b10' := (f1.same _ l10).trans b10
  have b12' := (f1.same _ l12).trans b12
  have E1 := E.fr f1
  refine W_seqI (fun e' H'' => Keep 110 [4, 7, 10, 11, 12, 38, 39, 40, 33] e e' ∧ gt 110 e' 14 = .pointer (some ⟨Ha.size, 0, none⟩) ∧ gt 110 e' 49 = .bool (decide (h.m < k)) ∧ H1 = H'') ?_ ?_
  ·refine W_draw [] rfl (by kernel_rfl) (by kernel_rfl) (by first|omega|(simp only [yz]<;>omega)) ?_
   simp (disch:=first|(simp only [yk,seval];done)|omega|(simp only [yz]<;>omega)|fail) only [↓yp,yq0,yq1,yq2,yq3,yq4,yl,ys0,ys1,seval,zed,zee,zfr,zhw,ysu,yrg,ysv,ysw,ysx,ysz,q10,q12,g14,b10',b12',b14,tm_look]
   refine A_look (F := st.F) (s := here) (k := km) (by simp (disch:=first|(simp only [yk,seval];done)|omega|(simp only [yz]<;>omega)|fail) only [↓yp,yq0,yq1,yq2,yq3,yq4,yl,ys0,ys1,seval,zed,zee,zfr,zhw,ysu,yrg,ysv,ysw,ysx,ysz]) (by simp (disch:=first|(simp only [yk,seval];done)|omega|(simp only [yz]<;>omega)|fail) only [↓yp,yq0,yq1,yq2,yq3,yq4,yl,ys0,ys1,seval,zed,zee,zfr,zhw,ysu,yrg,ysv,ysw,ysx,ysz,kv]) E1.mp (by omega) ?_
   rw [ho]
   simp (disch:=first|(simp only [yk,seval];done)|omega|(simp only [yz]<;>omega)|fail) only [↓yp,yq0,yq1,yq2,yq3,yq4,yl,ys0,ys1,seval,zed,zee,zfr,zhw,ysu,yrg,ysv,ysw,ysx,ysz,q10,q12,g14,b10',b12',b14,tm_look,av]
   refine A_fld (a := h) (by simp (disch:=first|(simp only [yk,seval];done)|omega|(simp only [yz]<;>omega)|fail) only [↓yp,yq0,yq1,yq2,yq3,yq4,yl,ys0,ys1,seval,zed,zee,zfr,zhw,ysu,yrg,ysv,ysw,ysx,ysz,av]) (by omega) ?_
   simp (disch:=first|(simp only [yk,seval];done)|omega|(simp only [yz]<;>omega)|fail) only [↓yp,yq0,yq1,yq2,yq3,yq4,yl,ys0,ys1,seval,zed,zee,zfr,zhw,ysu,yrg,ysv,ysw,ysx,ysz,q10,q12,g14,b10',b12',b14,tm_look,av]
   refine ⟨⟨by unfold sameV; simp, A_look (F := st.F) (s := here) (k := km) (by simp (disch:=first|(simp only [yk,seval];done)|omega|(simp only [yz]<;>omega)|fail) only [↓yp,yq0,yq1,yq2,yq3,yq4,yl,ys0,ys1,seval,zed,zee,zfr,zhw,ysu,yrg,ysv,ysw,ysx,ysz,tm_look]) (by simp (disch:=first|(simp only [yk,seval];done)|omega|(simp only [yz]<;>omega)|fail) only [↓yp,yq0,yq1,yq2,yq3,yq4,yl,ys0,ys1,seval,zed,zee,zfr,zhw,ysu,yrg,ysv,ysw,ysx,ysz,kv,tm_look]) E1.mp (Nat.zero_le _) (by rw [ho]; exact ⟨rfl, by simp (disch:=first|(simp only [yk,seval];done)|omega|(simp only [yz]<;>omega)|fail) only [↓yp,yq0,yq1,yq2,yq3,yq4,yl,ys0,ys1,seval,zed,zee,zfr,zhw,ysu,yrg,ysv,ysw,ysx,ysz,av]⟩), A_fld (a := h) (by simp (disch:=first|(simp only [yk,seval];done)|omega|(simp only [yz]<;>omega)|fail) only [↓yp,yq0,yq1,yq2,yq3,yq4,yl,ys0,ys1,seval,zed,zee,zfr,zhw,ysu,yrg,ysv,ysw,ysx,ysz,av,tm_fld]) (Nat.zero_le _) ⟨rfl, by simp (disch:=first|(simp only [yk,seval];done)|omega|(simp only [yz]<;>omega)|fail) only [↓yp,yq0,yq1,yq2,yq3,yq4,yl,ys0,ys1,seval,zed,zee,zfr,zhw,ysu,yrg,ysv,ysw,ysx,ysz]⟩⟩, ?_⟩
   refine ⟨by (with_reducible repeat first|refine Keep.put ?_ (by decide)|refine Keep.none ?_|assumption|exact Keep.refl _ _ _), ?_, ?_, rfl⟩
   ·simp (disch:=first|(simp only [yk,seval];done)|omega|(simp only [yz]<;>omega)|fail) only [yg,seval,g14]
   ·simp (disch:=first|(simp only [yk,seval];done)|omega|(simp only [yz]<;>omega)|fail) only [yg,seval]
  clear g14 k1
  rintro e2 _ ⟨k1, g14, g49, rfl⟩
  simp (disch:=first|(simp only [yk,seval];done)|omega|(simp only [yz]<;>omega)|fail) only [↓yp,yq0,yq1,yq2,yq3,yq4,yl,ys0,ys1,seval,zed,zee,zfr,zhw,ysu,yrg,ysv,ysw,ysx,ysz,g49]
  refine ⟨fun hA => ?_, fun hA => ?_⟩
  ·have hlt := of_decide_eq_true hA
   have hp' : procHere l w ld (nxt dn) k st here = st := by unfold procHere; rw [if_pos (by rw [ho]; exact hlt)]
   simp (disch:=first|(simp only [yk,seval];done)|omega|(simp only [yz]<;>omega)|fail) only [↓yp,yq0,yq1,yq2,yq3,yq4,yl,ys0,ys1,seval,zed,zee,zfr,zhw,ysu,yrg,ysv,ysw,ysx,ysz]
   rw [hp']
   exact endQ_mk ⟨k1, own, E1, FrE.of f1, .inl rfl⟩
  ·simp (disch:=first|(simp only [yk,seval];done)|omega|(simp only [yz]<;>omega)|fail) only [↓yp,yq0,yq1,yq2,yq3,yq4,yl,ys0,ys1,seval,zed,zee,zfr,zhw,ysu,yrg,ysv,ysw,ysx,ysz]
   exact ⟨of_decide_eq_false hA, by (with_reducible repeat first|refine Keep.put ?_ (by decide)|refine Keep.none ?_|assumption|exact Keep.refl _ _ _), by simp (disch:=first|(simp only [yk,seval];done)|omega|(simp only [yz]<;>omega)|fail) only [yg,seval,g14], rfl⟩
 clear g14 k1
 rintro e2 _ ⟨hnlt, k1, g14, rfl⟩
 have hm : h.m = k := by omega
 have hp' : procHere l w ld (nxt dn) k st here = visits (relax ld (nxt dn) here k) w ld here.1 l 0 st := by unfold procHere; rw [if_neg (by rw [ho]; exact hnlt)]
 rw [hp']
 have q4 := (k1 4 (by simp)).trans g4
 have b4' := (f1.same _ l4).trans b4
 -- the legs from here
 refine W_seqI (fun e' H'' => Keep 110 [4, 7, 10, 11, 12, 38, 39, 40, 33] e e' ∧ gt 110 e' 14 = .pointer (some ⟨Ha.size, 0, none⟩) ∧ gt 110 e' 55 = .func (.func 123) ⟨[]⟩ ⟨[.pointer (some ⟨H1.size, 0, none⟩), .pointer (some ⟨H1.size + 1, 0, none⟩), .pointer (some ⟨H1.size + 1 + 1, 0, none⟩)]⟩ ∧ Fr H1 H'' ∧ H''.size = H1.size + 3 ∧ cellsOf (H''.get H1.size) = some [.int .i64 C, .slice a l.length cap, .int .i64 w, .int .i64 ld, .int .i64 (-1)] ∧ cellsOf (H''.get (H1.size + 1)) = some [.int .i64 here.1] ∧ cellsOf (H''.get (H1.size + 1 + 1)) = some [.func (.func 107) ⟨[jobG C a l.length cap w ld (-1)]⟩ ⟨[]⟩]) ?_ ?_
 ·have h106 := fun (N : Nat) (Q : Bool → Value → AHeap → Prop) (u : Value) (hu : u.cells.toList = [u]) (hL : L ≤ H1.size) => c106 (N := N) (H := H1) (Q := Q) (L := L) (C := C) (w := w) (ld := ld) (lf := -1) (x := here.1) (a := a) (n := l.length) (cap := cap) (u := u) hu hL
  simp only [jobG] at h106
  simp (disch:=first|(simp only [yk,seval];done)|omega|(simp only [yz]<;>omega)|fail) only [↓yp,yq0,yq1,yq2,yq3,yq4,yl,ys0,ys1,seval,zed,zee,zfr,zhw,ysu,yrg,ysv,ysw,ysx,ysz,q4,g14,b4',b14]
  rw [h106 _ _ _ rfl (by omega)]
  simp (disch:=first|(simp only [yk,seval];done)|omega|(simp only [yz]<;>omega)|fail) only [↓yp,yq0,yq1,yq2,yq3,yq4,yl,ys0,ys1,seval,zed,zee,zfr,zhw,ysu,yrg,ysv,ysw,ysx,ysz]
  refine ⟨by (with_reducible repeat first|refine Keep.put ?_ (by decide)|refine Keep.none ?_|assumption|exact Keep.refl _ _ _), ?_, ?_, by (repeat (first | exact Fr.refl _ | assumption | refine Fr.allocd ?_ _ | refine Fr.put ?_ (by first | omega | (simp only [yz] <;> omega)) _)), by (first | omega | (simp only [yz] <;> omega)), ?_, ?_, ?_⟩
  ·simp (disch:=first|(simp only [yk,seval];done)|omega|(simp only [yz]<;>omega)|fail) only [yg,seval,g14]
  ·simp (disch:=first|(simp only [yk,seval];done)|omega|(simp only [yz]<;>omega)|fail) only [yg,seval]
  ·simp (disch:=first|(simp only [yk,seval];done)|omega|(simp only [yz]<;>omega)|fail) only [yg,seval]
  ·simp (disch:=first|(simp only [yk,seval];done)|omega|(simp only [yz]<;>omega)|fail) only [yg,seval]
  ·simp (disch:=first|(simp only [yk,seval];done)|omega|(simp only [yz]<;>omega)|fail) only [yg,seval,jobG]
 clear g14 k1 q4
 rintro e6 H6 ⟨k6, g14, g55, f6, sz6, hjob, hcor, hsuit⟩
 rw [zah]
 have fA6 : Fr Ha H6 := f1.trans f6
 have E6 := E.fr fA6
 have f06 : Fr H₀ H6 := f0.trans fA6
 have no6 : ∀ q, q < H6.size → Ha.size ≤ q → q ≠ km ∧ q ≠ kd ∧ ∀ t < 241, q ∉ own t := fun q h1 h2 => ⟨by omega, by omega, fun t ht hm => by have := (E.ownb t ht q hm).2.1; omega⟩
 have c4 := (k6 4 (by simp)).trans g4
 have c7 := (k6 7 (by simp)).trans g7
 have c10 := (k6 10 (by simp)).trans g10
 have c11 := (k6 11 (by simp)).trans g11
 have c12 := (k6 12 (by simp)).trans g12
 have j4 := (fA6.same _ l4).trans b4
 have j7 := (fA6.same _ l7).trans b7
 have j10 := (fA6.same _ l10).trans b10
 have j12 := (fA6.same _ l12).trans b12
 have j14 := (f6.same _ (by omega)).trans b14
 have frJ : ∀ {st H''}, LJ H₀ H6 l w ld a₀ dn s₀ S km kd k own here h st H'' → ∀ q, q < H6.size → q ≠ km → q ≠ kd → (∀ t < 241, q ∉ own t) → H''.get q = H6.get q := fun J q h1 h2 h3 h4 => by
  obtain ⟨own', -, fe, -⟩ := J.ex
  exact fe.same q h1 h2 h3 h4
 have frB : ∀ {st H''}, LJ H₀ H6 l w ld a₀ dn s₀ S km kd k own here h st H'' → Fr H₀ H'' := fun J => by
  obtain ⟨own', -, fe, -⟩ := J.ex
  exact E6.old f06 fe
 refine W_legsd (J := LJ H₀ H6 l w ld a₀ dn s₀ S km kd k own here h) (f := relax ld (nxt dn) here k) (K₀ := 700) (C := C) (w := w) (ld := ld) (lf := -1) (x := here.1) (a := a) (cap := cap) (b1 := H1.size) (b2 := H1.size + 1) (b3 := H1.size + 1 + 1) st
  ⟨?_, fun st H'' J => J.sz, ?_, ?_, ?_, ?_, ?_⟩ ?_ ?_ X.hl (by omega) (by omega) g55 ?_ ?_ (by omega) ?_
 ·rintro st Hx Hy J fr
  obtain ⟨own', q1, q2, q3⟩ := J.ex
  exact ⟨⟨own', q1.fr fr, q2.trans (FrE.of fr), q3⟩, Nat.le_trans J.sz fr.size, J.inv, J.hh⟩
 ·rintro st Hx J
  have := no6 H1.size (by omega) (by omega)
  rw [frJ J _ (by omega) this.1 this.2.1 this.2.2]; exact hjob
 ·rintro st Hx J
  have := no6 (H1.size + 1) (by omega) (by omega)
  rw [frJ J _ (by omega) this.1 this.2.1 this.2.2]; exact hcor
 ·rintro st Hx J
  have := no6 (H1.size + 1 + 1) (by omega) (by omega)
  rw [frJ J _ (by omega) this.1 this.2.1 this.2.2]; exact hsuit
 ·rintro N' st Hx i r b J hi
  exact c94 (X.sl.fr (frB J)) hi
 ·rintro N' st Hx i r b J hi
  exact c107 (X.sl.fr (frB J)) hi
 ·rintro st2 Hx Hy J1 J2 fr
  obtain ⟨own1, q1, q2, q3⟩ := J1.ex
  obtain ⟨own2, r1, r2, r3⟩ := J2.ex
  exact ⟨⟨own1, q1.down r1 fr, q2, q3⟩, J1.sz, J2.inv, J2.hh⟩
 ·rintro st Hx blk J
  obtain ⟨own', q1, q2, q3⟩ := J.ex
  have hkm := E6.km1
  have hkd := E6.kd1
  refine ⟨⟨own', q1.put (by omega) (by omega) (fun t ht hm => (q3 t ht _ hm).2 rfl) blk, ⟨by rw [zdf]; exact q2.size, fun q h1 h2 h3 h4 => by rw [zdd (by omega)]; exact q2.same q h1 h2 h3 h4, q2.grow, fun q hq hlt => by rw [zdd (by omega)]; exact q2.row q hq hlt, q2.ownk⟩, q3⟩, by rw [zdf]; exact J.sz, J.inv, J.hh⟩
 ·intro blk
  have hkm := E6.km1
  refine ⟨⟨own, E6.fr (by repeat first|exact Fr.refl _|assumption|refine Fr.allocd ?_ _|refine Fr.put ?_ (by first|omega|(simp only [yz]<;>omega)) _), FrE.of (by repeat first|exact Fr.refl _|assumption|refine Fr.allocd ?_ _|refine Fr.put ?_ (by first|omega|(simp only [yz]<;>omega)) _), fun t ht q hq => ?_⟩, by (first | omega | (simp only [yz] <;> omega)), I, hh⟩
  have := (E6.ownb t ht q hq).2.1
  omega
 ·rintro M2 hM2 st2 Hx i r b e' J hi hmay hn hlb hdf ge ge'
  obtain ⟨M2, rfl⟩ : ∃ M', M2 = M' + 700 := ⟨M2 - 700, by omega⟩
  obtain ⟨own2, q1, q2, q3⟩ := J.ex
  have szJ := J.sz
  have hkm := E6.km1
  have hkd := E6.kd1
  have c4' := (ge' 4 (by decide)).trans c4
  have c7' := (ge' 7 (by decide)).trans c7
  have c10' := (ge' 10 (by decide)).trans c10
  have c11' := (ge' 11 (by decide)).trans c11
  have c12' := (ge' 12 (by decide)).trans c12
  have c14' := (ge' 14 (by decide)).trans g14
  simp only [legV] at ge
  simp (disch:=first|(simp only [yk,seval];done)|omega|(simp only [yz]<;>omega)|fail) only [↓yp,yq0,yq1,yq2,yq3,yq4,yl,ys0,ys1,seval,zed,zee,zfr,zhw,ysu,yrg,ysv,ysw,ysx,ysz,ge]
  refine midY_gen (by simp (disch:=first|(simp only [yk,seval];done)|omega|(simp only [yz]<;>omega)|fail) only [yg,seval]; exact hlb) ?_
  intro bz hbz
  have fx : ∀ q, q < Hx.size → q ≠ H6.size + 1 → (((Hx.alloc (.rw [.int .i64 0, .bool false] 28 false [])).put Hx.size (.rw [.int .i64 (i : Nat), .bool b] 28 false [])).put (H6.size + 1) bz).get q = Hx.get q := fun q h1 h2 => by rw [zdd h2, zdd (by omega), zdb h1]
  have kp : ∀ q, q < H6.size → q ≠ km → q ≠ kd → (∀ t < 241, q ∉ own t) → (((Hx.alloc (.rw [.int .i64 0, .bool false] 28 false [])).put Hx.size (.rw [.int .i64 (i : Nat), .bool b] 28 false [])).put (H6.size + 1) bz).get q = H6.get q := fun q h1 h2 h3 h4 => by rw [fx q (by omega) (by omega)]; exact frJ J q h1 h2 h3 h4
  have E2 : EXr H₀.size a₀ (((Hx.alloc (.rw [.int .i64 0, .bool false] 28 false [])).put Hx.size (.rw [.int .i64 (i : Nat), .bool b] 28 false [])).put (H6.size + 1) bz) km kd st2 own2 :=
   (q1.fr (Fr.put (Fr.alloc _ _) (Nat.le_refl _) _)).put (by omega) (by omega) (fun t ht hm => (q3 t ht _ hm).2 rfl) bz
  have n4' : k4 ≠ km ∧ k4 ≠ kd ∧ ∀ t < 241, k4 ∉ own t := n4
  have B : LB (((Hx.alloc (.rw [.int .i64 0, .bool false] 28 false [])).put Hx.size (.rw [.int .i64 (i : Nat), .bool b] 28 false [])).put (H6.size + 1) bz) l C w ld a cap sv km kd k4 k7 k10 k12 Ha.size here k own2 (e'.put (some 15) (.pointer (some ⟨Hx.size, 0, none⟩))) := by
   have n14 := no6 Ha.size (by omega) (Nat.le_refl _)
   refine ⟨?_, ?_, ?_, ?_, ?_, ?_, ?_, ?_, ?_, ?_, ?_, by (first | omega | (simp only [yz] <;> omega)), by (first | omega | (simp only [yz] <;> omega)), by (first | omega | (simp only [yz] <;> omega)), by (first | omega | (simp only [yz] <;> omega)), by (first | omega | (simp only [yz] <;> omega))⟩
   ·simp (disch:=first|(simp only [yk,seval];done)|omega|(simp only [yz]<;>omega)|fail) only [yg,seval,c4']
   ·simp (disch:=first|(simp only [yk,seval];done)|omega|(simp only [yz]<;>omega)|fail) only [yg,seval,c7']
   ·simp (disch:=first|(simp only [yk,seval];done)|omega|(simp only [yz]<;>omega)|fail) only [yg,seval,c10']
   ·simp (disch:=first|(simp only [yk,seval];done)|omega|(simp only [yz]<;>omega)|fail) only [yg,seval,c11']
   ·simp (disch:=first|(simp only [yk,seval];done)|omega|(simp only [yz]<;>omega)|fail) only [yg,seval,c12']
   ·simp (disch:=first|(simp only [yk,seval];done)|omega|(simp only [yz]<;>omega)|fail) only [yg,seval,c14']
   ·rw [kp _ (by omega) n4.1 n4.2.1 n4.2.2]; exact j4
   ·rw [kp _ (by omega) n7.1 n7.2.1 n7.2.2]; exact j7
   ·rw [kp _ (by omega) n10.1 n10.2.1 n10.2.2]; exact j10
   ·rw [kp _ (by omega) n12.1 n12.2.1 n12.2.2]; exact j12
   ·rw [kp _ (by omega) n14.1 n14.2.1 n14.2.2]; exact j14
  refine W_end (c120b (lb := H6.size + 1) (k15 := Hx.size) (i := i) (r := r) (b := b) X (Fr.put (Fr.put ((frB J).allocd _) (by omega) _) (by omega) _) E2 J.inv (I.sub _ _ hh) B (by simp (disch:=first|(simp only [yk,seval];done)|omega|(simp only [yz]<;>omega)|fail) only [yg,seval]) (by rw [zdd (by omega)]; exact zdc (by first|omega|(simp only [yz]<;>omega))) (by first|omega|(simp only [yz]<;>omega)) hi hk (by have := ((I.can _ _ hh).le h0.2 X.g).1; omega) hL) ?_
  rintro e9 H9 ⟨own9, r1, r2⟩
  have r2s := r2.size
  simp only [zdf,zde] at r2s
  have hbz9 : H9.get (H6.size + 1) = bz := by rw [r2.same _ (by first|omega|(simp only [yz]<;>omega)) (by omega) (by omega) (fun t ht hm => (q3 t ht _ hm).2 rfl)]; exact zdc (by first|omega|(simp only [yz]<;>omega))
  have hdf9 : H9.get H6.size = .defer := by rw [r2.same _ (by first|omega|(simp only [yz]<;>omega)) (by omega) (by omega) (fun t ht hm => (q3 t ht _ hm).1 rfl), fx _ (by omega) (by omega)]; exact hdf
  refine endY_normal (by rw [hbz9]; exact hbz) ?_
  have q39 : ∀ t < 241, ∀ q ∈ own9 t, q ≠ H6.size ∧ q ≠ H6.size + 1 := fun t ht q hq => by
   rcases r2.grow t ht q hq with h' | h'
   ·exact q3 t ht q h'
   ·simp only [zdf,zde] at h'
    omega
  unfold roundQ
  refine ⟨rfl, zdc (by omega), by rw [zdd (by omega)]; exact hdf9, ⟨own9, r1.put (by omega) (by omega) (fun t ht hm => (q39 t ht _ hm).2 rfl) _, ⟨by rw [zdf]; omega, fun q h1 h2 h3 h4 => ?_, fun t ht q hq => ?_, fun q hq hlt => ?_, r2.ownk.trans q2.ownk⟩, q39⟩, by rw [zdf]; omega, relax_ok J.inv X.g hS h0 (Int.natCast_nonneg k) J.hh hm hi hmay hn, relax_old X.g hi (Int.natCast_nonneg k) J.hh (by omega)⟩
  ·rw [zdd (by omega), r2.same q (by first|omega|(simp only [yz]<;>omega)) h2 h3 (E6.ownb' q2 h1 h4)]
   exact kp q h1 h2 h3 h4
  ·rcases r2.grow t ht q hq with h' | h'
   ·exact q2.grow t ht q h'
   ·simp only [zdf,zde] at h'
    exact .inr (by omega)
  ·rw [zdd (by omega), r2.row q (by rw [q2.ownk]; exact hq) (by first|omega|(simp only [yz]<;>omega)), fx q (by omega) (by omega)]
   exact q2.row q hq hlt
 ·intro H9 blk J hdf
  obtain ⟨own9, q1, q2, q3⟩ := J.ex
  have szJ := J.sz
  have hkm := E6.km1
  have hkd := E6.kd1
  simp (disch:=first|(simp only [yk,seval];done)|omega|(simp only [yz]<;>omega)|fail) only [↓yp,yq0,yq1,yq2,yq3,yq4,yl,ys0,ys1,seval,zed,zee,zfr,zhw,ysu,yrg,ysv,ysw,ysx,ysz]
  refine endQ_mk ⟨k6, own9, q1.put (by omega) (by omega) (fun t ht hm => (q3 t ht _ hm).2 rfl) blk, (FrE.of fA6).trans ⟨by rw [zdf]; exact q2.size, fun q h1 h2 h3 h4 => by rw [zdd (by omega)]; exact q2.same q h1 h2 h3 h4, q2.grow, fun q hq hlt => by rw [zdd (by omega)]; exact q2.row q hq hlt, q2.ownk⟩, .inr ⟨H6.size, rfl, by omega, by rw [zdf]; omega, by rw [zdd (by omega)]; exact hdf, by omega, by omega, fun t ht hm => (q3 t ht _ hm).1 rfl⟩⟩
end
end Go.Am
namespace Go.Am
open Go.Proofs
variable {T : Tab} {P : Program} {N L : Nat} {H : AHeap} {Q : Bool → Value → AHeap → Prop}
structure FrO (H H'' : AHeap) (km kd : Nat) (own own' : Nat → List Nat) : Prop where
 size : H.size ≤ H''.size
 same : ∀ k, k < H.size → k ≠ km → k ≠ kd → (∀ t < 241, k ∉ own t) → H''.get k = H.get k
 grow : ∀ t < 241, ∀ b ∈ own' t, b ∈ own t ∨ H.size ≤ b
structure DsOk (lo : Nat) (H : AHeap) (km kd : Nat) (own : Nat → List Nat) (ds : List Nat) : Prop where
 nd : ds.Nodup
 dd : ∀ q ∈ ds, lo ≤ q ∧ q < H.size ∧ H.get q = .defer ∧ q ≠ km ∧ q ≠ kd ∧ ∀ t < 241, q ∉ own t
section
variable {H₀ Ha H' H'' : AHeap} {l : List Str} {C w ld a₀ : Int} {a : Option Addr} {sv : Value} {cap km kd k4 k7 k10 k12 : Nat} {bt : Nat → Int} {dn : Int → Nat → Int} {S : List Stt} {s₀ here : Stt} {st st' : Ex} {own own' own'' : Nat → List Nat} {e e' : VT} {h : Arv} {k base lo : Nat} {ds : List Nat}
theorem FrE.o (f : FrE H H' km kd own own' k) : FrO H H' km kd own own' := ⟨f.size, f.same, f.grow⟩
theorem FrO.trans (f : FrO H H' km kd own own') (f' : FrO H' H'' km kd own' own'') : FrO H H'' km kd own own'' where
 size := Nat.le_trans f.size f'.size
 same k hk h1 h2 h3 := by
  rw [f'.same k (Nat.lt_of_lt_of_le hk f.size) h1 h2 (fun t ht hm => by
   rcases f.grow t ht k hm with h | h
   ·exact h3 t ht h
   ·omega)]
  exact f.same k hk h1 h2 h3
 grow t ht b hb := by
  rcases f'.grow t ht b hb with h | h
  ·exact f.grow t ht b h
  ·exact .inr (Nat.le_trans f.size h)
theorem FrO.of (f : Fr H H') : FrO H H' km kd own own := ⟨f.size, fun k hk _ _ _ => f.same k hk, fun _ _ _ h => .inl h⟩
theorem FrO.no (f : FrO H H' km kd own own') {q : Nat} (hq : q < H.size) (hn : ∀ t < 241, q ∉ own t) : ∀ t < 241, q ∉ own' t := fun t ht hm => by
 rcases f.grow t ht q hm with h | h
 ·exact hn t ht h
 ·omega
theorem DsOk.fr (d : DsOk lo H km kd own ds) (f : FrO H H' km kd own own') : DsOk lo H' km kd own' ds where
 nd := d.nd
 dd q hq := by
  obtain ⟨h1, h2, h3, h4, h5, h6⟩ := d.dd q hq
  exact ⟨h1, Nat.lt_of_lt_of_le h2 f.size, by rw [f.same q h2 h4 h5 h6]; exact h3, h4, h5, f.no h2 h6⟩
theorem DsOk.more {ds' : List Nat} (d : DsOk lo H km kd own ds) (f : FrO H H' km kd own own') (h : DfB H H' km kd own' ds ds') (hlo : lo ≤ H.size) : DsOk lo H' km kd own' ds' := by
 have d' := d.fr f
 rcases h with rfl | ⟨q, rfl, h1, h2, h3, h4, h5, h6⟩
 ·exact d'
 ·refine ⟨List.nodup_cons.2 ⟨fun hm => ?_, d'.nd⟩, fun p hp => ?_⟩
  ·have := (d.dd q hm).2.1
   omega
  ·rcases List.mem_cons.1 hp with rfl | hp
   ·exact ⟨by omega, h2, h3, h4, h5, h6⟩
   ·exact d'.dd p hp
theorem take_fold {α β : Type} {f : β → α → β} {l : List α} {j : Nat} {x : α} {b : β} (h : l[j]? = some x) : (l.take (j + 1)).foldl f b = f ((l.take j).foldl f b) x := by
 rw [List.take_add_one, h, List.foldl_append]; rfl
set_option maxHeartbeats 4000000 in
set_option maxRecDepth 10000 in
theorem c120m (X : ExC H₀ l C w ld a cap sv bt dn S) (hS : StS l (nxt dn) s₀ S) (h0 : 0 ≤ a₀ ∧ a₀ ≤ 240) (f0 : Fr H₀ Ha) (E : EXr H₀.size a₀ Ha km kd st own) (I : ExI l w ld (nxt dn) s₀ a₀ S k st)
  (g4 : gt 110 e 4 = .pointer (some ⟨k4, 0, none⟩)) (g7 : gt 110 e 7 = .pointer (some ⟨k7, 0, none⟩)) (g10 : gt 110 e 10 = .pointer (some ⟨k10, 0, none⟩)) (g11 : gt 110 e 11 = .pointer (some ⟨kd, 0, none⟩)) (g33 : gt 110 e 33 = .int .i64 (k : Nat))
  (b4 : Ha.get k4 = .rw [.int .i64 C, .slice a l.length cap, .int .i64 w, .int .i64 ld, .int .i64 (-1)] 124 false []) (b7 : Ha.get k7 = .rw [sv] 52 false []) (b10 : Ha.get k10 = .rw [.map (some km)] 163 false [])
  (hno : ∀ q, q = k4 ∨ q = k7 ∨ q = k10 → q < Ha.size ∧ q ≠ km ∧ q ≠ kd ∧ ∀ t < 241, q ∉ own t) (hds : DsOk lo Ha km kd own ds) (hlo : lo ≤ Ha.size) (hk : k ≤ 240) (hL : L ≤ H₀.size) :
  W tabA Try.prog (N + 2400) none (sub [true, true, true, true, true, false, true, false, false, true, true, false] (bodyOf Try.f120)) L ⟨110, e, Ha, ds⟩ (endQ 110 fun e' H'' ds' => Keep 110 [4, 7, 10, 11, 33] e e' ∧ ∃ own', EXr H₀.size a₀ H'' km kd (procMin l w ld (nxt dn) st k) own' ∧ FrO Ha H'' km kd own own' ∧ DsOk lo H'' km kd own' ds') := by
 have sz0 := f0.size
 have hkm1 := E.km1
 have hkd1 := E.kd1
 obtain ⟨vs, hv, hvl, hrow⟩ := E.arr
 obtain ⟨v, hvk, hr⟩ := hrow k (by omega)
 have hD : (st.D k).length ≤ 1000 := by
  have := nodup_len (I.nd k) (S := S) (fun x hx => by
   obtain ⟨y, h1, _⟩ := I.had k x hx
   exact I.sub x y h1)
  have := X.lenS
  omega
 simp only [Try.f120,bodyOf,sub_nil,sub_seq0,sub_seq1,sub_block,sub_loop,sub_cond0,sub_cond1]
 rw [zah]
 refine W_seqI (fun e' H'' => Keep 110 [4, 7, 10, 11, 33] e e' ∧ gt 110 e' 12 = .pointer (some ⟨Ha.size, 0, none⟩) ∧ Fr Ha H'' ∧ H''.size = Ha.size + 1 ∧ H''.get Ha.size = .rw [.int .i64 (k : Nat)] 3 false []) ?_ ?_
 ·simp (disch:=first|(simp only [yk,seval];done)|omega|(simp only [yz]<;>omega)|fail) only [↓yp,yq0,yq1,yq2,yq3,yq4,yl,ys0,ys1,seval,zed,zee,zfr,zhw,ysu,yrg,ysv,ysw,ysx,ysz,g33]
  refine ⟨by (with_reducible repeat first|refine Keep.put ?_ (by decide)|refine Keep.none ?_|assumption|exact Keep.refl _ _ _), ?_, by (repeat (first | exact Fr.refl _ | assumption | refine Fr.allocd ?_ _ | refine Fr.put ?_ (by first | omega | (simp only [yz] <;> omega)) _)), by (first | omega | (simp only [yz] <;> omega)), zdc (by first|omega|(simp only [yz]<;>omega))⟩
  simp (disch:=first|(simp only [yk,seval];done)|omega|(simp only [yz]<;>omega)|fail) only [yg,seval]
 rintro e1 H1 ⟨k1, g12, f1, sz1, b12⟩
 have q11 := (k1 11 (by simp)).trans g11
 have hv1 := (f1.same _ hkd1).trans hv
 have E1 := E.fr f1
 have hvs : ∃ av cp, v = .slice av (st.D k).length cp ∧ (st.D k ≠ [] → ∃ bk, av = some ⟨bk, 0, none⟩ ∧ bk ∈ own k ∧ cellsOf (Ha.get bk) = some (kvs (st.D k))) := by
  by_cases hne : st.D k = []
  ·exact ⟨none, 0, by rw [hr.nil hne, hne]; rfl, fun h => absurd hne h⟩
  ·obtain ⟨bk, cp, r1, r2, r3, r4⟩ := hr.cons hne
   exact ⟨_, _, r1, fun _ => ⟨bk, rfl, r2, r3⟩⟩
 obtain ⟨av, cp, rfl, hrow2⟩ := hvs
 obtain ⟨Lk, hLk⟩ : ∃ Lk, st.D k = Lk := ⟨_, rfl⟩
 rw [hLk] at hvk hrow2 hD
 have hpm : procMin l w ld (nxt dn) st k = Lk.foldl (procHere l w ld (nxt dn) k) st := by unfold procMin; rw [hLk]
 rw [hpm]
 simp (disch:=first|(simp only [yk,seval];done)|omega|(simp only [yz]<;>omega)|fail) only [↓yp,yq0,yq1,yq2,yq3,yq4,yl,ys0,ys1,seval,zed,zee,zfr,zhw,ysu,yrg,ysv,ysw,ysx,ysz,q11,g12,b12,hv1,hvk,A_indexArr st_arS_178,lenV_slice st_esS_177]
 refine W_whileD 0 1200 (fun q e' H'' ds' => ∃ j : Nat, q = Lk.length - j ∧ j ≤ Lk.length ∧ gt 110 e' 40 = .int .i64 (j : Nat) ∧ gt 110 e' 39 = .int .i64 Lk.length ∧ gt 110 e' 38 = .slice av Lk.length cp ∧ gt 110 e' 12 = .pointer (some ⟨Ha.size, 0, none⟩) ∧ Keep 110 [4, 7, 10, 11, 33] e e' ∧ ∃ own', EXr H₀.size a₀ H'' km kd ((Lk.take j).foldl (procHere l w ld (nxt dn) k) st) own' ∧ FrE H1 H'' km kd own own' k ∧ DsOk lo H'' km kd own' ds' ∧ ExI l w ld (nxt dn) s₀ a₀ S k ((Lk.take j).foldl (procHere l w ld (nxt dn) k) st) ∧ ((Lk.take j).foldl (procHere l w ld (nxt dn) k) st).D k = Lk)
  ?_ 1000 Lk.length ⟨0, by omega, by omega, by simp (disch:=first|(simp only [yk,seval];done)|omega|(simp only [yz]<;>omega)|fail) only [yg,seval] <;> rfl, by simp (disch:=first|(simp only [yk,seval];done)|omega|(simp only [yz]<;>omega)|fail) only [yg,seval], by simp (disch:=first|(simp only [yk,seval];done)|omega|(simp only [yz]<;>omega)|fail) only [yg,seval], by simp (disch:=first|(simp only [yk,seval];done)|omega|(simp only [yz]<;>omega)|fail) only [yg,seval,g12], by (with_reducible repeat first|refine Keep.put ?_ (by decide)|refine Keep.none ?_|assumption|exact Keep.refl _ _ _), own, E1, FrE.refl _ _ _ _ _, hds.fr (FrO.of f1), I, hLk⟩ (by omega) (by omega)
 rintro M q e' H2 ds' - ⟨j, rfl, hj, g40, g39, g38, g12', kk, own', E2, fe, hds', I2, hD2⟩
 have szE := fe.size
 simp (disch:=first|(simp only [yk,seval];done)|omega|(simp only [yz]<;>omega)|fail) only [↓yp,yq0,yq1,yq2,yq3,yq4,yl,ys0,ys1,seval,zed,zee,zfr,zhw,ysu,yrg,ysv,ysw,ysx,ysz,g40,g39]
 refine ⟨fun hA => ?_, fun hA => ?_⟩
 ·have hj' : j < Lk.length := by have := of_decide_eq_true hA; omega
  have hne : Lk ≠ [] := fun h => by rw [h] at hj'; simp at hj'
  obtain ⟨bk, rfl, hbk, hbc⟩ := hrow2 hne
  obtain ⟨here, hhere⟩ : ∃ x, Lk[j]? = some x := ⟨Lk[j], by simp [hj']⟩
  have hbk1 := (E.ownb k (by omega) bk hbk).2.1
  have hbc2 : cellsOf (H2.get bk) = some (kvs Lk) := by rw [fe.row bk hbk (by omega), f1.same _ hbk1]; exact hbc
  have hw2 : w64 ((j : Int) + 1) = ((j + 1 : Nat) : Int) := by rw [w64_of (by omega)]; omega
  have feo := (FrO.of (own := own) (km := km) (kd := kd) f1).trans fe.o
  have at2 : ∀ q, q = k4 ∨ q = k7 ∨ q = k10 → q < H2.size ∧ q ≠ km ∧ q ≠ kd ∧ (∀ t < 241, q ∉ own' t) ∧ H2.get q = Ha.get q := fun q hq => by
   obtain ⟨p1, p2, p3, p4⟩ := hno q hq
   exact ⟨by omega, p2, p3, feo.no p1 p4, feo.same q p1 p2 p3 p4⟩
  have n12 : Ha.size ≠ km ∧ Ha.size ≠ kd ∧ ∀ t < 241, Ha.size ∉ own t := ⟨by omega, by omega, fun t ht hm => by have := (E.ownb t ht _ hm).2.1; omega⟩
  have b12' : H2.get Ha.size = .rw [.int .i64 (k : Nat)] 3 false [] := by rw [fe.same _ (by omega) n12.1 n12.2.1 n12.2.2]; exact b12
  have no12 : ∀ t < 241, Ha.size ∉ own' t := fe.o.no (by omega) n12.2.2
  have f02 : Fr H₀ H2 := E1.old (f0.trans f1) fe
  refine W_skipI (by omega) ?_
  rw [zag]
  refine W_endQ (c120h (here := here) (cp := cp) (k4 := k4) (k7 := k7) (k10 := k10) (k12 := Ha.size) (bk := bk) (n := Lk.length) (j := j) (c := kvs Lk) (ds := ds') X hS h0 f02 E2 I2 (by rw [hD2]; exact List.mem_of_getElem? hhere) ?_ ?_ ?_ ?_ ?_ ?_ ?_ ?_ ?_ ?_ ?_ ?_ hj' hbc2 (kvs_part hhere) hk hL) ?_
  ·simp (disch:=first|(simp only [yk,seval];done)|omega|(simp only [yz]<;>omega)|fail) only [yg,seval]
   exact (kk 4 (by simp)).trans g4
  ·simp (disch:=first|(simp only [yk,seval];done)|omega|(simp only [yz]<;>omega)|fail) only [yg,seval]
   exact (kk 7 (by simp)).trans g7
  ·simp (disch:=first|(simp only [yk,seval];done)|omega|(simp only [yz]<;>omega)|fail) only [yg,seval]
   exact (kk 10 (by simp)).trans g10
  ·simp (disch:=first|(simp only [yk,seval];done)|omega|(simp only [yz]<;>omega)|fail) only [yg,seval]
   exact (kk 11 (by simp)).trans g11
  ·simp (disch:=first|(simp only [yk,seval];done)|omega|(simp only [yz]<;>omega)|fail) only [yg,seval,g12']
  ·rw [(at2 k4 (.inl rfl)).2.2.2.2]; exact b4
  ·rw [(at2 k7 (.inr (.inl rfl))).2.2.2.2]; exact b7
  ·rw [(at2 k10 (.inr (.inr rfl))).2.2.2.2]; exact b10
  ·exact b12'
  ·rintro q (rfl | rfl | rfl | rfl)
   ·have := at2 q (.inl rfl); exact ⟨this.1, this.2.1, this.2.2.1, this.2.2.2.1⟩
   ·have := at2 q (.inr (.inl rfl)); exact ⟨this.1, this.2.1, this.2.2.1, this.2.2.2.1⟩
   ·have := at2 q (.inr (.inr rfl)); exact ⟨this.1, this.2.1, this.2.2.1, this.2.2.2.1⟩
   ·exact ⟨by omega, n12.1, n12.2.1, no12⟩
  ·simp (disch:=first|(simp only [yk,seval];done)|omega|(simp only [yz]<;>omega)|fail) only [yg,seval,g38]
  ·simp (disch:=first|(simp only [yk,seval];done)|omega|(simp only [yz]<;>omega)|fail) only [yg,seval,g40]
  rintro e9 H9 ds9 ⟨k9, own9, E9, fe9, df9⟩
  have sz9 := fe9.size
  have c40 := (k9 40 (by simp))
  have c39 := (k9 39 (by simp))
  have c38 := (k9 38 (by simp))
  have c12 := (k9 12 (by simp))
  simp (disch:=first|(simp only [yk,seval];done)|omega|(simp only [yz]<;>omega)|fail) only [yg,seval] at c40 c39 c38 c12
  rw [g40] at c40
  rw [g39] at c39
  rw [g38] at c38
  rw [g12'] at c12
  obtain ⟨i1, i2, -⟩ := here_ok I2 X.g hS h0 (Int.natCast_nonneg k) (by rw [hD2]; exact List.mem_of_getElem? hhere)
  have kk9 : Keep 110 [4, 7, 10, 11, 33] e e9 := Keep.trans kk (Keep.trans (show Keep 110 [4, 7, 10, 11, 33] e' _ by (with_reducible repeat first|refine Keep.put ?_ (by decide)|refine Keep.none ?_|assumption|exact Keep.refl _ _ _)) (fun p hp => k9 p (by simp at hp ⊢; omega)))
  simp (disch:=first|(simp only [yk,seval];done)|omega|(simp only [yz]<;>omega)|fail) only [↓yp,yq0,yq1,yq2,yq3,yq4,yl,ys0,ys1,seval,zed,zee,zfr,zhw,ysu,yrg,ysv,ysw,ysx,ysz,c40,hw2]
  refine ⟨Lk.length - (j + 1), by omega, j + 1, rfl, by omega, ?_, ?_, ?_, ?_, by (with_reducible repeat first|refine Keep.put ?_ (by decide)|refine Keep.none ?_|assumption|exact Keep.refl _ _ _), own9, ?_, fe.trans fe9, hds'.more fe9.o df9 (by omega), ?_, ?_⟩
  ·simp (disch:=first|(simp only [yk,seval];done)|omega|(simp only [yz]<;>omega)|fail) only [yg,seval]
  ·simp (disch:=first|(simp only [yk,seval];done)|omega|(simp only [yz]<;>omega)|fail) only [yg,seval,c39]
  ·simp (disch:=first|(simp only [yk,seval];done)|omega|(simp only [yz]<;>omega)|fail) only [yg,seval,c38]
  ·simp (disch:=first|(simp only [yk,seval];done)|omega|(simp only [yz]<;>omega)|fail) only [yg,seval,c12]
  ·rw [take_fold hhere]; exact E9
  ·rw [take_fold hhere]; exact i1
  ·rw [take_fold hhere, i2 k (Int.le_refl _)]; exact hD2
 ·have hjl : j = Lk.length := by have := of_decide_eq_false hA; omega
  subst hjl
  simp (disch:=first|(simp only [yk,seval];done)|omega|(simp only [yz]<;>omega)|fail) only [↓yp,yq0,yq1,yq2,yq3,yq4,yl,ys0,ys1,seval,zed,zee,zfr,zhw,ysu,yrg,ysv,ysw,ysx,ysz]
  rw [List.take_length] at E2
  refine endQ_mk ⟨by (with_reducible repeat first|refine Keep.put ?_ (by decide)|refine Keep.none ?_|assumption|exact Keep.refl _ _ _), own', E2, (FrO.of f1).trans fe.o, hds'⟩
end
end Go.Am
