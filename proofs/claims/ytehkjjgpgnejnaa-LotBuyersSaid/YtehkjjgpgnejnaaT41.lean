import Derived.Test.YtehkjjgpgnejnaaT37
set_option linter.unusedSimpArgs false
set_option linter.unusedVariables false
namespace Go.Am.K
open Go.Proofs
variable {T : Tab} {P : Program} {N L : Nat} {H H' H'' : AHeap} {Q : Bool → Value → AHeap → Prop}
theorem part_10_3 {a0 a1 a2 a3 a4 a5 a6 a7 a8 a9 : Value} : part [a0, a1, a2, a3, a4, a5, a6, a7, a8, a9] 0 4 = some (.agg ⟨[a0, a1, a2]⟩) := nr rfl
theorem StOk.chk {ps : List Pk} {gs : List Gd} {lots : Int} (h : StOk ps gs lots) : chkS ps gs lots = 0 := by
 have e1 : chk1 ps gs = false := by
  unfold chk1 wi
  simp only [Bool.or_eq_false_iff,Bool.not_eq_false',Bool.and_eq_true,decide_eq_true_eq,decide_eq_false_iff_not]
  have := h.l1
  have := h.l4
  have := h.g4
  omega
 have e4 : chk2 ps gs lots = false := by
  unfold chk2 wi
  rw [h.pb, h.gb]
  have := h.lo
  simp only [Bool.not_true,Bool.or_self,Bool.false_or,Bool.not_eq_false',Bool.and_eq_true,decide_eq_true_eq]
  omega
 have e5 : (ps.all fun p => !decide (p.hi < p.f)) = true := List.all_eq_true.2 fun p hp => by
  have := h.sp p hp
  simp only [Bool.not_eq_true',decide_eq_false_iff_not]
  omega
 unfold chkS
 rw [e1, e4, h.od, e5]; rfl
theorem kn_hi {p : Pk} {n : Int} (hp : p.Ok) (h : p.f ≤ n ∧ n ≤ p.hi) : (kn p n).hi = n := by
 obtain ⟨h1, h2, h3, h4⟩ := hp
 have h5 : p.hi ≤ p.s := by unfold Pk.hi; split <;> omega
 show (if p.s - p.s + n < p.s then p.s - p.s + n else p.s) = n
 split <;> omega
theorem kn_ok {ps : List Pk} {gs : List Gd} {lots n : Int} {i : Nat} {p : Pk} (h : StOk ps gs lots) (hi : ps[i]? = some p) (hn : p.f ≤ n ∧ n ≤ p.hi) : StOk (ps.set i (kn p n)) gs lots := by
 have hpm := List.mem_of_getElem? hi
 have hpo := Pk.isB_ok (List.all_eq_true.1 h.pb p hpm)
 have hk := kn_hi hpo hn
 obtain ⟨h1, h2, h3, h4⟩ := hpo
 have h5 : p.hi ≤ p.s := by unfold Pk.hi; split <;> omega
 have hb : (kn p n).isB = true := by
  unfold Pk.isB wi kn
  simp only [Bool.and_eq_true,decide_eq_true_eq]
  omega
 refine ⟨by rw [List.length_set]; exact h.l1, by rw [List.length_set]; exact h.l4, h.g4, List.all_eq_true.2 fun q hq => ?_, h.gb, h.lo, h.od, fun q hq => ?_⟩
 ·rcases List.mem_or_eq_of_mem_set hq with hq | rfl
  ·exact List.all_eq_true.1 h.pb q hq
  ·exact hb
 ·rcases List.mem_or_eq_of_mem_set hq with hq | rfl
  ·exact h.sp q hq
  ·rw [hk]; exact Int.le_refl _
theorem kn_lot {ps : List Pk} {l : List Int} {n : Int} {i : Nat} {p : Pk} (h : LotOk ps l) (hi : ps[i]? = some p) : LotOk (ps.set i (kn p n)) l := by
 refine ⟨by rw [List.length_set]; exact h.len, fun j m q hm hq => ?_⟩
 by_cases e : i = j
 ·subst e
  rw [List.getElem?_set_self ((List.getElem?_eq_some_iff.1 hi).1)] at hq
  cases hq
  exact h.ok i m p hm hi
 ·rw [List.getElem?_set_ne e] at hq
  exact h.ok j m q hm hq
section
variable {a a' al : Option Addr} {cap cap' cl mk i : Nat} {ps : List Pk} {gs : List Gd} {lots : Int} {l : List Int} {op fd n : Int} {p : Pk}
def nonE (ps : List Pk) (l : List Int) (op fd : Int) (i : Nat) (p : Pk) (n : Int) : Bool := !decide (lfHi (ps.set i (kn p n)) l op fd < lfLo (ps.set i (kn p n)) l fd)
def tellS (P : Int → Bool) (x : Int × Int) (n : Int) : Int × Int := bif P n then (if n < x.1 then n else x.1, if n > x.2 then n else x.2) else x
def tellF (P : Int → Bool) (f b : Int) : Nat → Int × Int
 | 0 => (b, f)
 | k + 1 => tellS P (tellF P f b k) (f + k)
end
end Go.Am.K
namespace Go.Am.K
open Go.Proofs
variable {T : Tab} {P : Program} {N L : Nat} {H H' H'' : AHeap} {Q : Bool → Value → AHeap → Prop}
def spE : Enc (Int × Int) := ⟨fun s => [.int .i64 s.1, .int .i64 s.2], 2, fun _ => rfl, fun _ => rfl⟩
def z38 : Value := .agg ⟨[.int .i64 0, .int .i64 0]⟩
theorem st_mkS_56 : mkS tabA 56 = some (38, z38, 2, 16) := by kernel_rfl
theorem made_sp : ∀ {n : Nat}, n ≤ 4 → (madeCells z38.cells (n * 2)).toList = spE.fl (List.replicate n (0, 0)) ∧ allGrV (madeCells z38.cells (n * 2)).toList = true
 | 0, _ => by constructor <;> kernel_rfl
 | 1, _ => by constructor <;> kernel_rfl
 | 2, _ => by constructor <;> kernel_rfl
 | 3, _ => by constructor <;> kernel_rfl
 | 4, _ => by constructor <;> kernel_rfl
 | n + 5, h => by omega
section
variable {a a' al : Option Addr} {cap cap' cl : Nat} {ps : List Pk} {gs : List Gd} {lots : Int} {l : List Int} {op fd : Int}
def toldV (ps : List Pk) (l : List Int) (op fd : Int) (j : Nat) (p : Pk) : Int × Int := tellF (nonE ps l op fd j p) p.f p.hi (p.hi - p.f + 1).toNat
structure Td (ps : List Pk) (l : List Int) (op fd : Int) (i : Nat) (tl : List (Int × Int)) : Prop where
 len : tl.length = ps.length
 at_ : ∀ (j : Nat) (p : Pk), j < i → ps[j]? = some p → tl[j]? = some (toldV ps l op fd j p)
theorem Td.next {i : Nat} {tl : List (Int × Int)} {p : Pk} (h : Td ps l op fd i tl) (hp : ps[i]? = some p) : Td ps l op fd (i + 1) (tl.set i (toldV ps l op fd i p)) := by
 have hlt := (List.getElem?_eq_some_iff.1 hp).1
 refine ⟨by rw [List.length_set]; exact h.len, fun j q hj hq => ?_⟩
 by_cases e : i = j
 ·subst e
  rw [hp] at hq
  cases hq
  rw [List.getElem?_set_self (by rw [h.len]; exact hlt)]
 ·rw [List.getElem?_set_ne e]
  exact h.at_ j q (by omega) hq
end
end Go.Am.K
namespace Go.Am.K
open Go.Proofs
variable {T : Tab} {P : Program} {N L : Nat} {H H' H'' : AHeap} {Q : Bool → Value → AHeap → Prop}
theorem Bts.fr {a : Option Addr} {bs : List Int} (h : Bts H a bs) (f : Fr H H') : Bts H' a bs := ⟨fun hne => by
 obtain ⟨b, o, c, h1, h2, h3, h4⟩ := h.row hne
 exact ⟨b, o, c, h1, Nat.lt_of_lt_of_le h2 f.size, by rw [f.same b h2]; exact h3, h4⟩, h.byte, h.len⟩
structure LS (H H' : AHeap) (n kq : Nat) (aq : Option Addr) (bq : List Int) (cq i5 b1 c1 b2 c2 b3 c3 : Nat) (ps : List Pk) (gs : List Gd) (rs : List Int) (lots : Int) (e : VT) : Prop where
 r1 : Rx kq pkE H' (some ⟨b1, 0, none⟩) ps
 r2 : Rx kq gdE H' (some ⟨b2, 0, none⟩) gs
 r3 : Rx kq intE H' (some ⟨b3, 0, none⟩) rs
 ok : chkS ps gs lots = 0
 g5 : gt n e 5 = .pointer (some ⟨i5, 0, none⟩)
 l5 : i5 < H'.size
 n5 : i5 ≠ kq
 b5 : H'.get i5 = .rw [.slice (some ⟨b1, 0, none⟩) ps.length c1, .slice (some ⟨b2, 0, none⟩) gs.length c2, .int .i64 lots] 25 false []
 g6 : gt n e 6 = .slice (some ⟨b3, 0, none⟩) rs.length c3
 g7 : gt n e 7 = .pointer (some ⟨kq, 0, none⟩)
 chu : Chu H' kq aq bq cq
 hk : H.size ≤ kq
structure LL (H' : AHeap) (n kq b4 c4 i10 : Nat) (ps : List Pk) (l : List Int) (lo hi sv : Int) (e : VT) : Prop where
 r4 : Rx kq intE H' (some ⟨b4, 0, none⟩) l
 lk : LotOk ps l
 g8 : gt n e 8 = .slice (some ⟨b4, 0, none⟩) l.length c4
 g9 : gt n e 9 = .int .i64 (isum l)
 g10 : gt n e 10 = .pointer (some ⟨i10, 0, none⟩)
 l10 : i10 < H'.size
 n10 : i10 ≠ kq
 b10 : H'.get i10 = .rw [.int .i64 lo, .int .i64 hi] 38 false []
 g12 : gt n e 12 = .int .i64 sv
section
variable {n kq cq i5 b1 c1 b2 c2 b3 c3 b4 c4 i10 : Nat} {aq : Option Addr} {bq rs l : List Int} {ps : List Pk} {gs : List Gd} {lots lo hi sv : Int} {e e' : VT}
theorem LS.next (I : LS H H' n kq aq bq cq i5 b1 c1 b2 c2 b3 c3 ps gs rs lots e) (hc : Chu H'' kq aq bq cq) (f : FrX kq H' H'') (h : Keep n [5, 6, 7] e e') : LS H H'' n kq aq bq cq i5 b1 c1 b2 c2 b3 c3 ps gs rs lots e' where
 r1 := I.r1.frx f
 r2 := I.r2.frx f
 r3 := I.r3.frx f
 ok := I.ok
 g5 := (h 5 (by decide)).trans I.g5
 l5 := Nat.lt_of_lt_of_le I.l5 f.size
 n5 := I.n5
 b5 := (f.same _ I.l5 I.n5).trans I.b5
 g6 := (h 6 (by decide)).trans I.g6
 g7 := (h 7 (by decide)).trans I.g7
 chu := hc
 hk := I.hk
theorem LS.fr (I : LS H H' n kq aq bq cq i5 b1 c1 b2 c2 b3 c3 ps gs rs lots e) (f : Fr H' H'') (h : Keep n [5, 6, 7] e e') : LS H H'' n kq aq bq cq i5 b1 c1 b2 c2 b3 c3 ps gs rs lots e' := I.next (I.chu.fr f) (FrX.of f) h
theorem LS.lt (I : LS H H' n kq aq bq cq i5 b1 c1 b2 c2 b3 c3 ps gs rs lots e) : H.size < H'.size := Nat.lt_of_le_of_lt I.hk I.chu.lt
theorem LL.next (I : LL H' n kq b4 c4 i10 ps l lo hi sv e) (f : FrX kq H' H'') (h : Keep n [8, 9, 10, 12] e e') : LL H'' n kq b4 c4 i10 ps l lo hi sv e' where
 r4 := I.r4.frx f
 lk := I.lk
 g8 := (h 8 (by decide)).trans I.g8
 g9 := (h 9 (by decide)).trans I.g9
 g10 := (h 10 (by decide)).trans I.g10
 l10 := Nat.lt_of_lt_of_le I.l10 f.size
 n10 := I.n10
 b10 := (f.same _ I.l10 I.n10).trans I.b10
 g12 := (h 12 (by decide)).trans I.g12
structure Nw (H' : AHeap) (kq bf : Nat) (fl : List Int) : Prop where
 lt : bf < H'.size
 ne : bf ≠ kq
 get : H'.get bf = .rw (intE.fl fl) 3 true []
theorem Nw.frx {bf : Nat} {fl : List Int} (h : Nw H' kq bf fl) (f : FrX kq H' H'') : Nw H'' kq bf fl := ⟨Nat.lt_of_lt_of_le h.lt f.size, h.ne, (f.same _ h.lt h.ne).trans h.get⟩
theorem LS.put {j : Nat} {c : List Value} {ty : TypeId} {o : Bool} {al : List Nat} (I : LS H H' n kq aq bq cq i5 b1 c1 b2 c2 b3 c3 ps gs rs lots e) (hj : H'.get j = .rw c ty o al) (n5 : j ≠ i5) (nk : j ≠ kq) (n1 : j ≠ b1) (n2 : j ≠ b2) (n3 : j ≠ b3) (blk : ABlk) : LS H (H'.put j blk) n kq aq bq cq i5 b1 c1 b2 c2 b3 c3 ps gs rs lots e := by
 have key : ∀ {α : Type} {E : Enc α} {b : Nat} {l : List α}, Rx kq E H' (some ⟨b, 0, none⟩) l → j ≠ b → Rx kq E (H'.put j blk) (some ⟨b, 0, none⟩) l := fun {α E b l} h hne => ⟨⟨fun hl => by
  obtain ⟨b', o, c, e1, h2, h3, h4⟩ := h.rw.get hl
  cases e1
  exact ⟨b, 0, c, rfl, by rw [size_put]; exact h2, by rw [get_put_ne (Ne.symm hne)]; exact h3, h4⟩⟩, h.ne⟩
 exact ⟨key I.r1 n1, key I.r2 n2, key I.r3 n3, I.ok, I.g5, by rw [size_put]; exact I.l5, I.n5, by rw [get_put_ne (Ne.symm n5)]; exact I.b5, I.g6, I.g7, I.chu.other nk (fun c' e => by rw [hj] at e; cases e), I.hk⟩
theorem LL.put {j : Nat} (I : LL H' n kq b4 c4 i10 ps l lo hi sv e) (n4 : j ≠ b4) (n10 : j ≠ i10) (blk : ABlk) : LL (H'.put j blk) n kq b4 c4 i10 ps l lo hi sv e where
 r4 := ⟨⟨fun hl => by
  obtain ⟨b', o, c, e1, h2, h3, h4⟩ := I.r4.rw.get hl
  cases e1
  exact ⟨b4, 0, c, rfl, by rw [size_put]; exact h2, by rw [get_put_ne (Ne.symm n4)]; exact h3, h4⟩⟩, I.r4.ne⟩
 lk := I.lk
 g8 := I.g8
 g9 := I.g9
 g10 := I.g10
 l10 := by rw [size_put]; exact I.l10
 n10 := I.n10
 b10 := by rw [get_put_ne (Ne.symm n10)]; exact I.b10
 g12 := I.g12
end
end Go.Am.K
