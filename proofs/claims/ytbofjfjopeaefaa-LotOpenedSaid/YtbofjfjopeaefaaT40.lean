import Derived.Test.YtbofjfjopeaefaaT39
set_option linter.unusedSimpArgs false
set_option linter.unusedVariables false
namespace Go.Am.K
open Go.Proofs
variable {T : Tab} {P : Program} {N L : Nat} {H H' H'' : AHeap} {Q : Bool → Value → AHeap → Prop}
theorem Bts.fr {a : Option Addr} {bs : List Int} (h : Bts H a bs) (f : Fr H H') : Bts H' a bs := ⟨fun hne => by
 obtain ⟨b, o, c, h1, h2, h3, h4⟩ := h.row hne
 exact ⟨b, o, c, h1, Nat.lt_of_lt_of_le h2 f.size, by rw [f.same b h2]; exact h3, h4⟩, h.byte, h.len⟩
structure LS (H H' : AHeap) (n kq : Nat) (aq : Option Addr) (bq : List Int) (cq i5 b1 c1 b2 c2 b3 c3 : Nat) (ps : List Pk) (gs : List Gd) (rs : List Int) (lots : Int) (e : VT) : Prop where
 r1 : Rx kq pkE H' (some ⟨b1, 0, none⟩) ps
 r2 : Rx kq gdE H' (some ⟨b2, 0, none⟩) gs
 r3 : Rx kq intE H' (some ⟨b3, 0, none⟩) rs
 ok : chkS ps gs lots = 0
 g5 : gt n e 5 = .pointer (some ⟨i5, 0, none⟩)
 l5 : i5 < H'.size
 n5 : i5 ≠ kq
 b5 : H'.get i5 = .rw [.slice (some ⟨b1, 0, none⟩) ps.length c1, .slice (some ⟨b2, 0, none⟩) gs.length c2, .int .i64 lots] 25 false []
 g6 : gt n e 6 = .slice (some ⟨b3, 0, none⟩) rs.length c3
 g7 : gt n e 7 = .pointer (some ⟨kq, 0, none⟩)
 chu : Chu H' kq aq bq cq
 hk : H.size ≤ kq
structure LL (H' : AHeap) (n kq b4 c4 i10 : Nat) (ps : List Pk) (l : List Int) (lo hi sv : Int) (e : VT) : Prop where
 r4 : Rx kq intE H' (some ⟨b4, 0, none⟩) l
 lk : LotOk ps l
 g8 : gt n e 8 = .slice (some ⟨b4, 0, none⟩) l.length c4
 g9 : gt n e 9 = .int .i64 (isum l)
 g10 : gt n e 10 = .pointer (some ⟨i10, 0, none⟩)
 l10 : i10 < H'.size
 n10 : i10 ≠ kq
 b10 : H'.get i10 = .rw [.int .i64 lo, .int .i64 hi] 38 false []
 g12 : gt n e 12 = .int .i64 sv
section
variable {n kq cq i5 b1 c1 b2 c2 b3 c3 b4 c4 i10 : Nat} {aq : Option Addr} {bq rs l : List Int} {ps : List Pk} {gs : List Gd} {lots lo hi sv : Int} {e e' : VT}
theorem LS.next (I : LS H H' n kq aq bq cq i5 b1 c1 b2 c2 b3 c3 ps gs rs lots e) (hc : Chu H'' kq aq bq cq) (f : FrX kq H' H'') (h : Keep n [5, 6, 7] e e') : LS H H'' n kq aq bq cq i5 b1 c1 b2 c2 b3 c3 ps gs rs lots e' where
 r1 := I.r1.frx f
 r2 := I.r2.frx f
 r3 := I.r3.frx f
 ok := I.ok
 g5 := (h 5 (by decide)).trans I.g5
 l5 := Nat.lt_of_lt_of_le I.l5 f.size
 n5 := I.n5
 b5 := (f.same _ I.l5 I.n5).trans I.b5
 g6 := (h 6 (by decide)).trans I.g6
 g7 := (h 7 (by decide)).trans I.g7
 chu := hc
 hk := I.hk
theorem LS.fr (I : LS H H' n kq aq bq cq i5 b1 c1 b2 c2 b3 c3 ps gs rs lots e) (f : Fr H' H'') (h : Keep n [5, 6, 7] e e') : LS H H'' n kq aq bq cq i5 b1 c1 b2 c2 b3 c3 ps gs rs lots e' := I.next (I.chu.fr f) (FrX.of f) h
theorem LS.lt (I : LS H H' n kq aq bq cq i5 b1 c1 b2 c2 b3 c3 ps gs rs lots e) : H.size < H'.size := Nat.lt_of_le_of_lt I.hk I.chu.lt
theorem LL.next (I : LL H' n kq b4 c4 i10 ps l lo hi sv e) (f : FrX kq H' H'') (h : Keep n [8, 9, 10, 12] e e') : LL H'' n kq b4 c4 i10 ps l lo hi sv e' where
 r4 := I.r4.frx f
 lk := I.lk
 g8 := (h 8 (by decide)).trans I.g8
 g9 := (h 9 (by decide)).trans I.g9
 g10 := (h 10 (by decide)).trans I.g10
 l10 := Nat.lt_of_lt_of_le I.l10 f.size
 n10 := I.n10
 b10 := (f.same _ I.l10 I.n10).trans I.b10
 g12 := (h 12 (by decide)).trans I.g12
structure Nw (H' : AHeap) (kq bf : Nat) (fl : List Int) : Prop where
 lt : bf < H'.size
 ne : bf ≠ kq
 get : H'.get bf = .rw (intE.fl fl) 3 true []
theorem Nw.rx {bf : Nat} {fl : List Int} (h : Nw H' kq bf fl) : Rx kq intE H' (some ⟨bf, 0, none⟩) fl := ⟨Rw.of (r := []) h.lt (by rw [h.get]; rfl) (by rw [List.append_nil]), fun _ b o s e => by cases e; exact h.ne⟩
theorem Nw.frx {bf : Nat} {fl : List Int} (h : Nw H' kq bf fl) (f : FrX kq H' H'') : Nw H'' kq bf fl := ⟨Nat.lt_of_lt_of_le h.lt f.size, h.ne, (f.same _ h.lt h.ne).trans h.get⟩
theorem LS.put {j : Nat} {c : List Value} {ty : TypeId} {o : Bool} {al : List Nat} (I : LS H H' n kq aq bq cq i5 b1 c1 b2 c2 b3 c3 ps gs rs lots e) (hj : H'.get j = .rw c ty o al) (n5 : j ≠ i5) (nk : j ≠ kq) (n1 : j ≠ b1) (n2 : j ≠ b2) (n3 : j ≠ b3) (blk : ABlk) : LS H (H'.put j blk) n kq aq bq cq i5 b1 c1 b2 c2 b3 c3 ps gs rs lots e := by
 have key : ∀ {α : Type} {E : Enc α} {b : Nat} {l : List α}, Rx kq E H' (some ⟨b, 0, none⟩) l → j ≠ b → Rx kq E (H'.put j blk) (some ⟨b, 0, none⟩) l := fun {α E b l} h hne => ⟨⟨fun hl => by
  obtain ⟨b', o, c, e1, h2, h3, h4⟩ := h.rw.get hl
  cases e1
  exact ⟨b, 0, c, rfl, by rw [size_put]; exact h2, by rw [get_put_ne (Ne.symm hne)]; exact h3, h4⟩⟩, h.ne⟩
 exact ⟨key I.r1 n1, key I.r2 n2, key I.r3 n3, I.ok, I.g5, by rw [size_put]; exact I.l5, I.n5, by rw [get_put_ne (Ne.symm n5)]; exact I.b5, I.g6, I.g7, I.chu.other nk (fun c' e => by rw [hj] at e; cases e), I.hk⟩
theorem LL.put {j : Nat} (I : LL H' n kq b4 c4 i10 ps l lo hi sv e) (n4 : j ≠ b4) (n10 : j ≠ i10) (blk : ABlk) : LL (H'.put j blk) n kq b4 c4 i10 ps l lo hi sv e where
 r4 := ⟨⟨fun hl => by
  obtain ⟨b', o, c, e1, h2, h3, h4⟩ := I.r4.rw.get hl
  cases e1
  exact ⟨b4, 0, c, rfl, by rw [size_put]; exact h2, by rw [get_put_ne (Ne.symm n4)]; exact h3, h4⟩⟩, I.r4.ne⟩
 lk := I.lk
 g8 := I.g8
 g9 := I.g9
 g10 := I.g10
 l10 := by rw [size_put]; exact I.l10
 n10 := I.n10
 b10 := by rw [get_put_ne (Ne.symm n10)]; exact I.b10
 g12 := I.g12
end
end Go.Am.K
namespace Go.Am.K
open Go.Proofs
variable {T : Tab} {P : Program} {N L : Nat} {H H' H'' : AHeap} {Q : Bool → Value → AHeap → Prop}
def Fits (ps : List Pk) (fl : List Int) (i : Nat) : Prop := ∀ (j : Nat) (p : Pk) (f : Int), j < i → ps[j]? = some p → fl[j]? = some f → p.f ≤ f ∧ f ≤ p.hi
section
variable {kq cq i5 b1 c1 b2 c2 b3 c3 b4 c4 i10 : Nat} {aq : Option Addr} {bq rs l : List Int} {ps : List Pk} {gs : List Gd} {lots lo hi sv : Int} {e e' : VT}
end
end Go.Am.K
namespace Go.Am.K
open Go.Proofs
variable {T : Tab} {P : Program} {N L : Nat} {H H' H'' : AHeap} {Q : Bool → Value → AHeap → Prop}
theorem Mk.fits {k : Nat} {P M : Int} {ps : List Pk} {gs : List Gd} {rs : List Int} {lots : Int} (h : Mk k P M ps gs rs lots) : Fits ps rs ps.length := fun j p f _ hp hf => by
 have h1 := h.ok j p f hp hf
 exact ⟨h1.re.1, h1.sp.2⟩
section
variable {kq cq i5 b1 c1 b2 c2 b3 c3 b4 c4 i10 : Nat} {aq : Option Addr} {bq rs l : List Int} {ps : List Pk} {gs : List Gd} {lots lo hi sv : Int} {e e' : VT}
theorem LS.blocks (I : LS H H' 268 kq aq bq cq i5 b1 c1 b2 c2 b3 c3 ps gs rs lots e) (h1 : 1 ≤ ps.length) (h2 : 1 ≤ gs.length) (h3 : 1 ≤ rs.length) : b1 < H'.size ∧ b2 < H'.size ∧ b3 < H'.size := by
 obtain ⟨b, o, c, e1, l1, -⟩ := I.r1.rw.get (by rintro rfl; simp at h1)
 obtain ⟨b', o', c', e2, l2, -⟩ := I.r2.rw.get (by rintro rfl; simp at h2)
 obtain ⟨b'', o'', c'', e3, l3, -⟩ := I.r3.rw.get (by rintro rfl; simp at h3)
 cases e1
 cases e2
 cases e3
 exact ⟨l1, l2, l3⟩
end
end Go.Am.K
