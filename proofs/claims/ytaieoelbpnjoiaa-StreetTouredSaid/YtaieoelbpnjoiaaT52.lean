import Derived.Test.YtaieoelbpnjoiaaT50
import Derived.Test.YtaieoelbpnjoiaaT51
import Derived.Test.YtaieoelbpnjoiaaT48
set_option linter.unusedSimpArgs false
set_option linter.unusedVariables false
namespace Go.Am
open Go.Proofs
variable {T : Tab} {P : Program} {N L : Nat} {H : AHeap} {Q : Bool → Value → AHeap → Prop}
def TourS (l : List Str) (w ld fr a₀ : Int) (t : List Int) (m : Int) : Prop := CanS l w ld (nxt (dnT t)) (fr, 0) a₀ m (fr, ((2 ^ t.length - 1 : Nat) : Int))
def Told (l : List Str) (w ld fr a₀ : Int) (t : List Int) (n e : Int) : Prop :=
  (e = 1 ∧ n = 0 ∧ ∀ m', ¬ TourS l w ld fr a₀ t m') ∨ (e = 0 ∧ TourS l w ld fr a₀ t n ∧ ∀ m', TourS l w ld fr a₀ t m' → n ≤ m')
section
variable {l : List Str} {C w ld fr a₀ n e n' e' m : Int} {t t' : List Int}
theorem Told.err (h : Told l w ld fr a₀ t n e) : e = 0 ∨ e = 1 := by
  rcases h with ⟨h, _⟩ | ⟨h, _⟩
  · exact .inr h
  · exact .inl h
theorem Told.same (h : Told l w ld fr a₀ t n e) (h' : Told l w ld fr a₀ t' n' e') (hnd : t.Nodup) (hnd' : t'.Nodup) (h1 : ∀ s ∈ t', s ∈ t) (h2 : ∀ s ∈ t, s ∈ t') : n' = n ∧ e' = e := by
  have k1 : ∀ m, TourS l w ld fr a₀ t m → TourS l w ld fr a₀ t' m := fun m h => tour_less h hnd hnd' h1
  have k2 : ∀ m, TourS l w ld fr a₀ t' m → TourS l w ld fr a₀ t m := fun m h => tour_less h hnd' hnd h2
  rcases h with ⟨rfl, rfl, h3⟩ | ⟨rfl, h3, h4⟩ <;> rcases h' with ⟨rfl, rfl, h5⟩ | ⟨rfl, h5, h6⟩
  · exact ⟨rfl, rfl⟩
  · exact absurd (k2 _ h5) (h3 _)
  · exact absurd (k1 _ h3) (h5 _)
  · have := h4 _ (k2 _ h5)
    have := h6 _ (k1 _ h3)
    exact ⟨by omega, rfl⟩
theorem Told.ge (h : Told l w ld fr a₀ t n 0) (ha : a₀ ≤ 240) (g : Good C l ld) : a₀ ≤ n := by
  rcases h with ⟨h, _⟩ | ⟨_, h, _⟩
  · cases h
  · exact (h.le ha g).1
theorem Told.none (h : Told l w ld fr a₀ [] n e) (ha : a₀ ≤ 240) (g : Good C l ld) : n = a₀ ∧ e = 0 := by
  rcases h with ⟨_, _, h⟩ | ⟨rfl, h1, h2⟩
  · exact absurd .start (h a₀)
  · have := h2 a₀ .start
    have := (CanS.le h1 ha g).1
    exact ⟨by omega, rfl⟩
theorem Told.less (h : Told l w ld fr a₀ t n e) (h' : Told l w ld fr a₀ t' n' e') (hnd : t.Nodup) (hnd' : t'.Nodup) (h1 : ∀ s ∈ t', s ∈ t) : e = 0 → e' = 0 ∧ n' ≤ n := by
  intro he
  rcases h with ⟨rfl, _⟩ | ⟨_, h3, _⟩
  · cases he
  · have k := tour_less h3 hnd hnd' h1
    rcases h' with ⟨rfl, rfl, h5⟩ | ⟨rfl, h5, h6⟩
    · exact absurd k (h5 _)
    · exact ⟨rfl, h6 _ k⟩
theorem Told.wlk {ls : List (Int × Bool)} (h : Told l w ld fr a₀ t n e) (hw : Wlk l w ld fr a₀ ls fr m) (g : Good C l ld) (h0 : 0 ≤ a₀) (ha : a₀ ≤ 240) (hnd : t.Nodup) (hl : lckB ls t = false) : e = 0 ∧ n ≤ m := by
  have k := wlk_tour hw g h0 ha hnd hl
  rcases h with ⟨rfl, _, h⟩ | ⟨rfl, _, h⟩
  · exact absurd k (h _)
  · exact ⟨rfl, h _ k⟩
end
theorem known_off {b o n m : Nat} {c : List Value} {ty : TypeId} {op : Bool} {al : List Nat} (hg : H.get b = .rw c ty op al) (hc : c.length = m + o) (hn : n ≤ m) : known H ⟨b, o, none⟩ n 1 (OPEN + 1) = m := by
  unfold known
  have h1 : Nat.beq (OPEN + 1) (OPEN + 1) = true := Nat.beq_refl _
  simp only [hg,h1,cond_true,hc,Nat.add_sub_cancel,Nat.div_one]
  cases h : Nat.blt n m
  · simp only [cond_false]
    have h2 : ¬ n < m := fun hlt => by
      have : Nat.blt n m = true := Nat.ble_eq_true_of_le hlt
      rw [this] at h; cases h
    omega
  · rfl
def Cu (H : AHeap) (v : Value) (ts : List Int) (k : Nat) : Prop := (v = .slice none 0 0 ∧ ts = []) ∨ ∃ b r al, v = .slice (some ⟨b, 0, none⟩) ts.length (OPEN + 1) ∧ k < b ∧ b < H.size ∧ H.get b = .rw (tv (ts ++ r)) 3 true al
section
variable {k : Nat} {v : Value} {ts : List Int} {H' : AHeap}
theorem Cu.frx (h : Cu H v ts k) (f : FrX k H H') : Cu H' v ts k := by
  rcases h with h | ⟨b, r, al, h1, h2, h3, h4⟩
  · exact .inl h
  · exact .inr ⟨b, r, al, h1, h2, Nat.lt_of_lt_of_le h3 f.size, by rw [f.same _ h3 (by omega)]; exact h4⟩
theorem Cu.fr (h : Cu H v ts k) (f : Fr H H') : Cu H' v ts k := h.frx (FrX.of f)
theorem tvAt {t : List Int} {i : Nat} {x : Int} (h : t[i]? = some x) : (tv t)[i]? = some (.int .i64 x) := by
  unfold tv
  rw [List.getElem?_map, h]; rfl
theorem Cu.op (h : Cu H v ts k) : ∃ a cap, v = .slice a ts.length cap ∧ Op H a cap ts := by
  rcases h with ⟨rfl, rfl⟩ | ⟨b, r, al, rfl, h2, h3, h4⟩
  · exact ⟨none, 0, rfl, Op.none⟩
  · refine ⟨some ⟨b, 0, none⟩, OPEN + 1, rfl, ⟨fun hne => ⟨b, 0, tv (ts ++ r), rfl, h3, by rw [h4]; rfl, fun i n hi => ?_⟩⟩, fun hne => ⟨b, 0, (ts ++ r).length, rfl, rfl, ?_, by simp⟩⟩
    · rw [Nat.zero_add]
      exact tvAt (by rw [List.getElem?_append_left (List.getElem?_eq_some_iff.1 hi).1]; exact hi)
    · exact known_off (m := (ts ++ r).length) h4 (by rw [tv_len]; rfl) (by simp)
theorem Cu.tail {s : Int} (h : Cu H v (s :: ts) k) : ∃ b al r, v = .slice (some ⟨b, 0, none⟩) (ts.length + 1) (OPEN + 1) ∧ b < H.size ∧ H.get b = .rw (tv (s :: ts ++ r)) 3 true al := by
  rcases h with ⟨_, h⟩ | ⟨b, r, al, h1, h2, h3, h4⟩
  · cases h
  · exact ⟨b, al, r, h1, h3, h4⟩
theorem tail_op {b : Nat} {al : List Nat} {s : Int} {r : List Int} (hb : b < H.size) (h : H.get b = .rw (tv (s :: ts ++ r)) 3 true al) : Op H (some ⟨b, 1, none⟩) (OPEN + 1) ts := by
  refine ⟨⟨fun hne => ⟨b, 1, tv (s :: ts ++ r), rfl, hb, by rw [h]; rfl, fun i n hi => ?_⟩⟩, fun hne => ⟨b, 1, (ts ++ r).length, rfl, rfl, ?_, by simp⟩⟩
  · exact tvAt (by rw [Nat.add_comm, List.cons_append, List.getElem?_cons_succ, List.getElem?_append_left (List.getElem?_eq_some_iff.1 hi).1]; exact hi)
  · exact known_off (m := (ts ++ r).length) h (by rw [tv_len]; rfl) (by simp)
theorem idx_nodup {n : Nat} : (idx n).Nodup := by
  unfold idx
  exact List.Pairwise.map _ (fun a b h e => h (by omega)) List.nodup_range
theorem idx_mem {n : Nat} {x : Int} (h : x ∈ idx n) : 0 ≤ x ∧ x < n := by
  unfold idx at h
  obtain ⟨i, hi, rfl⟩ := List.mem_map.1 h
  have := List.mem_range.1 hi
  omega
end
end Go.Am
namespace Go.Am
open Go.Proofs
variable {T : Tab} {P : Program} {N L : Nat} {H : AHeap} {Q : Bool → Value → AHeap → Prop}
theorem aSlice_nilF {ty : TypeId} {t : Operand → Option Value} {x : Operand} {hi : Option Operand} {z : Nat} (hz : esS T ty = some z) (hx : t x = some (.slice none 0 0)) (hh : abound t hi = some (some 0)) : aSlice T t H ty x none hi none = some (.slice none 0 0, H, H.size) := by
  obtain ⟨e, i, hu, hi', rfl⟩ := esS_split hz
  have h0 : Nat.blt 0 OPEN = true := by unfold OPEN; rfl
  have hab : abounds 0 0 none (some 0) none = some (0, 0, 0) := rfl
  unfold aSlice
  simp only [hx,hu,hh,show abound t none = some none from rfl,hi',h0,cond_true,hab,Nat.sub_self]
theorem A_sliceNF {ty : TypeId} {t : Operand → Option Value} {x y : Operand} {z : Nat} {ex : Exec} (hz : esS T ty = some z) (hx : t x = some (.slice none 0 0)) (hy : t y = some (.int .i64 0)) (hL : L ≤ H.size) (hq : Q true (.slice none 0 0) H) : A T P ex t H L (.slice ty x none (some y) none) Q :=
  A_slice_of (aSlice_nilF hz hx (abound_int hy)) hL hq
def cutV (v : Value) (n : Nat) : Value := match v with
  | .slice a _ c => .slice a n c
  | v => v
structure TU (H : AHeap) (C w ld : Int) (l : List Str) (i8 i9 : Nat) (a' : Option Addr) (cap' : Nat) (b2 : Option Addr) (bs2 : List Int) (cap2 : Nat) (fr wn : Int) (ts : List Int) (v11 : Value) (e : VT) (H' : AHeap) : Prop where
  q : LQ 255 7 8 H C w ld l i8 i9 a' cap' e H'
  g6 : gt 255 e 6 = .pointer (some ⟨H.size + 1, 0, none⟩)
  g9 : gt 255 e 9 = .int .i64 fr
  g10 : gt 255 e 10 = .int .i64 wn
  g11 : gt 255 e 11 = v11
  cu : Cu H' v11 ts (H.size + 1)
  h8 : H.size + 1 < i8
  h9 : H.size + 1 < i9
  c2 : Chu H' (H.size + 1) b2 bs2 cap2
structure Tx (C w ld : Int) (l : List Str) (a' : Option Addr) (cap' : Nat) (fr wn : Int) (ts : List Int) : Prop where
  hC : 2 ≤ C ∧ C ≤ 8
  hl : l.length ≤ 16
  ho : ∀ s ∈ l, OkS C s
  hn : a' = none → cap' = 0
  hw : 1 ≤ w ∧ w ≤ 9
  hd : 0 ≤ ld ∧ ld ≤ 9
  hfr : 0 ≤ fr ∧ fr < C
  hwn : 0 ≤ wn ∧ wn ≤ 59
  nd : ts.Nodup
  mem : ∀ s ∈ ts, 0 ≤ s ∧ s < l.length
  len : ts.length ≤ 5
section
variable {C w ld fr wn : Int} {l : List Str} {i8 i9 cap' cap2 : Nat} {a' b2 : Option Addr} {bs2 ts : List Int} {v11 : Value} {e e' : VT} {H' H'' : AHeap}
theorem Tx.good (X : Tx C w ld l a' cap' fr wn ts) : Good C l ld := by
  have := X.hC
  have := X.hd
  exact good_of (chk_of (by omega) X.hl X.ho) (off_iff.2 (by omega))
theorem Tx.asked (X : Tx C w ld l a' cap' fr wn ts) : asked C l w ld [fr] ts [wn] = 0 := by
  have := X.hC
  have := X.hw
  have := X.hd
  have := X.hfr
  have := X.hwn
  unfold Go.Am.asked
  rw [if_neg (by rw [chk_of (by omega) X.hl X.ho]; simp), if_neg (by rw [off_iff.2 (by omega), off_iff.2 (by omega)]; simp), if_neg (by simp [off_iff.2 (show 0 ≤ fr ∧ fr ≤ C - 1 by omega)]), if_neg ?_, if_neg (by simp [off_iff.2 (show 0 ≤ wn ∧ wn ≤ 240 by omega)])]
  rw [Bool.not_eq_true, List.any_eq_false]
  intro s hs
  have := X.mem s hs
  rw [off_iff.2 (by omega)]; simp
theorem TU.next (I : TU H C w ld l i8 i9 a' cap' b2 bs2 cap2 fr wn ts v11 e H') (f : Fr H' H'') (h : Keep 255 [6, 7, 8, 9, 10, 11] e e') : TU H C w ld l i8 i9 a' cap' b2 bs2 cap2 fr wn ts v11 e' H'' where
  q := I.q.next f (fun p hp => h p (by simp at hp ⊢; omega))
  g6 := (h 6 (by simp)).trans I.g6
  g9 := (h 9 (by simp)).trans I.g9
  g10 := (h 10 (by simp)).trans I.g10
  g11 := (h 11 (by simp)).trans I.g11
  cu := I.cu.fr f
  h8 := I.h8
  h9 := I.h9
  c2 := I.c2.fr f
theorem TU.frx (I : TU H C w ld l i8 i9 a' cap' b2 bs2 cap2 fr wn ts v11 e H') (hc : Chu H'' (H.size + 1) b2 bs2 cap2) (f : FrX (H.size + 1) H' H'') (h : Keep 255 [6, 7, 8, 9, 10, 11] e e') : TU H C w ld l i8 i9 a' cap' b2 bs2 cap2 fr wn ts v11 e' H'' where
  q := I.q.frx (by have := I.h8; omega) (by have := I.h9; omega) (by omega) I.c2 f (fun p hp => h p (by simp at hp ⊢; omega))
  g6 := (h 6 (by simp)).trans I.g6
  g9 := (h 9 (by simp)).trans I.g9
  g10 := (h 10 (by simp)).trans I.g10
  g11 := (h 11 (by simp)).trans I.g11
  cu := I.cu.frx f
  h8 := I.h8
  h9 := I.h9
  c2 := hc
end
section
variable {a b2 : Option Addr} {cap cap2 : Nat} {bs bs2 : List Int} {R : Exit → ES → Prop} {c : Code}
set_option maxHeartbeats 4000000 in
set_option maxRecDepth 10000 in
theorem c13a (hb : Bts H a bs) (hb2 : Bts H b2 bs2) (hc : c = sub [true, true, true, true, true, true, true] (bodyOf Try.f13))
    (hr : ∀ e H' C w ld l i8 i9 a' cap' fr wn ts v11, Tx C w ld l a' cap' fr wn ts → TU H C w ld l i8 i9 a' cap' b2 bs2 cap2 fr wn ts v11 e H' → W tabA Try.prog (N + 23993) none c H.size ⟨255, e, H', []⟩ R)
    (e : VT) (g0 : gt 255 e 0 = .slice a bs.length cap) (g1 : gt 255 e 1 = .slice b2 bs2.length cap2) :
    W tabA Try.prog (N + 24000) none (bodyOf Try.f13) H.size ⟨255, e, H, []⟩ R := by
  subst hc
  simp only [Try.f13,bodyOf,sub_nil,sub_seq0,sub_seq1,sub_block,sub_loop,sub_cond0,sub_cond1] at hr ⊢
  refine W_seqI (fun e' H'' => gt 255 e' 0 = .slice a bs.length cap ∧ gt 255 e' 1 = .slice b2 bs2.length cap2 ∧ H = H'') ?_ ?_
  · simp (disch := (first | (simp only [yk,seval]; done) | omega | (simp only [yz] <;> omega) | fail)) only [↓yp,yq0,yq1,yq2,yq3,yq4,yl,ys0,ys1,seval,zed,zee,zfr,zhw,ysu,yrg,ysv,ysw,ysx,ysz,ysa]
    refine ⟨?_, ?_, rfl⟩
    · simp (disch := (first | (simp only [yk,seval]; done) | omega | (simp only [yz] <;> omega) | fail)) only [yg,seval,g0]
    · simp (disch := (first | (simp only [yk,seval]; done) | omega | (simp only [yz] <;> omega) | fail)) only [yg,seval,g1]
  clear g0 g1
  rintro e1 H1 ⟨g0, g1, rfl⟩
  refine W_seqI (fun e' H'' => gt 255 e' 5 = .pointer (some ⟨H.size, 0, none⟩) ∧ gt 255 e' 6 = .pointer (some ⟨H.size + 1, 0, none⟩) ∧ Fr H H'' ∧ H''.size = H.size + 2 ∧ Chu H'' H.size a bs cap ∧ Chu H'' (H.size + 1) b2 bs2 cap2) ?_ ?_
  · simp (disch := (first | (simp only [yk,seval]; done) | omega | (simp only [yz] <;> omega) | fail)) only [↓yp,yq0,yq1,yq2,yq3,yq4,yl,ys0,ys1,seval,zed,zee,zfr,zhw,ysu,yrg,ysv,ysw,ysx,ysz,ysa,g0]
    refine c48 hb (Nat.le_refl _) (by omega) ?_
    intro H2 fr1 hs1 hc1
    simp (disch := (first | (simp only [yk,seval]; done) | omega | (simp only [yz] <;> omega) | fail)) only [↓yp,yq0,yq1,yq2,yq3,yq4,yl,ys0,ys1,seval,zed,zee,zfr,zhw,ysu,yrg,ysv,ysw,ysx,ysz,ysa,g1]
    refine c48 (hb2.fr fr1) (by omega) (by omega) ?_
    intro H3 fr2 hs2 hc2
    rw [hs1] at hc2 hs2 ⊢
    simp (disch := (first | (simp only [yk,seval]; done) | omega | (simp only [yz] <;> omega) | fail)) only [↓yp,yq0,yq1,yq2,yq3,yq4,yl,ys0,ys1,seval,zed,zee,zfr,zhw,ysu,yrg,ysv,ysw,ysx,ysz,ysa]
    refine ⟨?_, ?_, fr1.trans fr2, by omega, hc1.fr fr2, hc2⟩
    · simp (disch := (first | (simp only [yk,seval]; done) | omega | (simp only [yz] <;> omega) | fail)) only [yg,seval]
    · simp (disch := (first | (simp only [yk,seval]; done) | omega | (simp only [yz] <;> omega) | fail)) only [yg,seval]
  clear g0 g1
  rintro e2 H1 ⟨g9, g10, fr1, hs1, hc1, hd1⟩
  refine W_seqI (fun e' H'' => ∃ a' cap' C l i8, gt 255 e' 5 = .pointer (some ⟨H.size, 0, none⟩) ∧ gt 255 e' 6 = .pointer (some ⟨H.size + 1, 0, none⟩) ∧ gt 255 e' 7 = .pointer (some ⟨i8, 0, none⟩) ∧ (2 ≤ C ∧ C ≤ 8) ∧ (l.length : Int) ≤ 16 ∧ (∀ s ∈ l, OkS C s) ∧ (a' = none → cap' = 0) ∧ Sl H'' a' l ∧ H''.get i8 = .rw [.int .i64 C, .slice a' l.length cap'] 24 false [] ∧ H.size + 1 < i8 ∧ i8 < H''.size ∧ Fr H H'' ∧ Chu H'' H.size a bs cap ∧ Chu H'' (H.size + 1) b2 bs2 cap2) ?_ ?_
  · simp (disch := (first | (simp only [yk,seval]; done) | omega | (simp only [yz] <;> omega) | fail)) only [↓yp,yq0,yq1,yq2,yq3,yq4,yl,ys0,ys1,seval,zed,zee,zfr,zhw,ysu,yrg,ysv,ysw,ysx,ysz,ysa,g9]
    refine c49 hc1 (by omega) (by omega) (Nat.le_refl _) (by omega) ?_
    intro f2 a' cap' C l H2 hC1 hC2 hl ho hn hsl hc2 hx2
    have sz2 := hx2.size
    have hd2 := hd1.frx hc1 (by omega) hx2
    simp (disch := (first | (simp only [yk,seval]; done) | omega | (simp only [yz] <;> omega) | fail)) only [↓yp,yq0,yq1,yq2,yq3,yq4,yl,ys0,ys1,seval,zed,zee,zfr,zhw,ysu,yrg,ysv,ysw,ysx,ysz,ysa]
    refine ⟨a', cap', C, l, H2.size, ?_, ?_, ?_, by omega, by omega, ho, hn, Sl.put (hsl.fr (Fr.alloc _ _)) (c := [.int .i64 0, .slice none 0 0]) (by rw [zda rfl]; rfl) (by simp), zdc (by (first | omega | (simp only [yz] <;> omega))), by omega, by (first | omega | (simp only [yz] <;> omega)), Fr.put (Fr.allocd (hx2.above fr1 (Nat.le_refl _)) _) (by omega) _, (hc2.fr (Fr.alloc _ _)).other (by omega) (fun c e => by rw [zda rfl] at e; cases e), (hd2.fr (Fr.alloc _ _)).other (by omega) (fun c e => by rw [zda rfl] at e; cases e)⟩
    · simp (disch := (first | (simp only [yk,seval]; done) | omega | (simp only [yz] <;> omega) | fail)) only [yg,seval,g9]
    · simp (disch := (first | (simp only [yk,seval]; done) | omega | (simp only [yz] <;> omega) | fail)) only [yg,seval,g10]
    · simp (disch := (first | (simp only [yk,seval]; done) | omega | (simp only [yz] <;> omega) | fail)) only [yg,seval]
  clear g9 g10 fr1 hs1 hc1 hd1
  rintro e3 H2 ⟨a', cap', C, l, i8, g9, g10, g11, hC28, hl, ho, hn, hsl, b8, k8, l8, fr2, hc2, hd2⟩
  refine W_seqI (fun e' H'' => ∃ w ld i9, LQ 255 7 8 H C w ld l i8 i9 a' cap' e' H'' ∧ gt 255 e' 5 = .pointer (some ⟨H.size, 0, none⟩) ∧ gt 255 e' 6 = .pointer (some ⟨H.size + 1, 0, none⟩) ∧ (1 ≤ w ∧ w ≤ 5) ∧ (0 ≤ ld ∧ ld ≤ 5) ∧ H.size + 1 < i9 ∧ Chu H'' H.size a bs cap ∧ Chu H'' (H.size + 1) b2 bs2 cap2) ?_ ?_
  · have sz2 := fr2.size
    simp (disch := (first | (simp only [yk,seval]; done) | omega | (simp only [yz] <;> omega) | fail)) only [↓yp,yq0,yq1,yq2,yq3,yq4,yl,ys0,ys1,seval,zed,zee,zfr,zhw,ysu,yrg,ysv,ysw,ysx,ysz,ysa,g9]
    refine c50 hc2 (Nat.le_refl _) (by omega) ?_
    intro f3 w ld H3 hw1 hw2 hd1 hd3 hc3 hx3
    have sz3 := hx3.size
    have hd4 := hd2.frx hc2 (by omega) hx3
    simp (disch := (first | (simp only [yk,seval]; done) | omega | (simp only [yz] <;> omega) | fail)) only [↓yp,yq0,yq1,yq2,yq3,yq4,yl,ys0,ys1,seval,zed,zee,zfr,zhw,ysu,yrg,ysv,ysw,ysx,ysz,ysa]
    refine ⟨w, ld, H3.size, ⟨?_, ?_, Fr.put (Fr.allocd (hx3.above fr2 (Nat.le_refl _)) _) (by omega) _, by (first | omega | (simp only [yz] <;> omega)), by (first | omega | (simp only [yz] <;> omega)), ?_, zdc (by (first | omega | (simp only [yz] <;> omega))), Sl.put ((hsl.frx hc2 hx3).fr (Fr.alloc _ _)) (c := [.int .i64 0, .int .i64 0]) (by rw [zda rfl]; rfl) (by simp)⟩, ?_, ?_, by omega, by omega, by omega, (hc3.fr (Fr.alloc _ _)).other (by omega) (fun c e => by rw [zda rfl] at e; cases e), (hd4.fr (Fr.alloc _ _)).other (by omega) (fun c e => by rw [zda rfl] at e; cases e)⟩
    · simp (disch := (first | (simp only [yk,seval]; done) | omega | (simp only [yz] <;> omega) | fail)) only [yg,seval,g11]
    · simp (disch := (first | (simp only [yk,seval]; done) | omega | (simp only [yz] <;> omega) | fail)) only [yg,seval]
    · rw [zdd (by omega), zdb (by omega), hx3.same _ l8 (by omega)]; exact b8
    · simp (disch := (first | (simp only [yk,seval]; done) | omega | (simp only [yz] <;> omega) | fail)) only [yg,seval,g9]
    · simp (disch := (first | (simp only [yk,seval]; done) | omega | (simp only [yz] <;> omega) | fail)) only [yg,seval,g10]
  have hk8 : H.size + 1 < i8 := k8
  clear g9 g10 g11 hsl b8 l8 fr2 hc2 hd2 k8
  rintro e H' ⟨w, ld, i9, I, g5, g6, ⟨hw1, hw2⟩, ⟨hd1, hd2⟩, hk9, hc, hd⟩
  have hlt := hc.lt
  have sz := I.fr.size
  refine W_seqI (fun e' H'' => ∃ fr wn, LQ 255 7 8 H C w ld l i8 i9 a' cap' e' H'' ∧ gt 255 e' 5 = .pointer (some ⟨H.size, 0, none⟩) ∧ gt 255 e' 6 = .pointer (some ⟨H.size + 1, 0, none⟩) ∧ (0 ≤ fr ∧ fr < C) ∧ (0 ≤ wn ∧ wn ≤ 59) ∧ gt 255 e' 9 = .int .i64 fr ∧ gt 255 e' 10 = .int .i64 wn ∧ Chu H'' H.size a bs cap ∧ Chu H'' (H.size + 1) b2 bs2 cap2) ?_ ?_
  · have l8 := I.l8
    have g8 := I.g8
    have b8 := I.b8
    simp (disch := (first | (simp only [yk,seval]; done) | omega | (simp only [yz] <;> omega) | fail)) only [↓yp,yq0,yq1,yq2,yq3,yq4,yl,ys0,ys1,seval,zed,zee,zfr,zhw,ysu,yrg,ysv,ysw,ysx,ysz,ysa,g5,g8,b8]
    refine c51 hc (by omega) (by omega) (by omega) ?_
    intro f fr H1 hff hp1 hc1 hx1 hs1
    simp (disch := (first | (simp only [yk,seval]; done) | omega | (simp only [yz] <;> omega) | fail)) only [↓yp,yq0,yq1,yq2,yq3,yq4,yl,ys0,ys1,seval,zed,zee,zfr,zhw,ysu,yrg,ysv,ysw,ysx,ysz,ysa,g5]
    refine c51 hc1 (by omega) (by omega) (by omega) ?_
    intro f2 wn H2 hff2 hp2 hc2 hx2 hs2
    obtain ⟨hf1, hf2⟩ := hp1
    obtain ⟨hn1, hn2⟩ := hp2
    have I1 : ∀ e', Keep 255 [7, 8] e e' → LQ 255 7 8 H C w ld l i8 i9 a' cap' e' H2 := fun e' hke => I.frx (by omega) (by omega) (Nat.le_refl _) hc (hx1.trans hx2) hke
    have hd2 := (hd.frx hc (by omega) hx1).frx hc1 (by omega) hx2
    simp (disch := (first | (simp only [yk,seval]; done) | omega | (simp only [yz] <;> omega) | fail)) only [↓yp,yq0,yq1,yq2,yq3,yq4,yl,ys0,ys1,seval,zed,zee,zfr,zhw,ysu,yrg,ysv,ysw,ysx,ysz,ysa]
    refine ⟨fr, wn, I1 _ (by (with_reducible (repeat (first | refine Keep.put ?_ (by decide) | refine Keep.none ?_ | assumption | exact Keep.refl _ _ _)))), ?_, ?_, by omega, by omega, ?_, ?_, hc2, hd2⟩
    · simp (disch := (first | (simp only [yk,seval]; done) | omega | (simp only [yz] <;> omega) | fail)) only [yg,seval,g5]
    · simp (disch := (first | (simp only [yk,seval]; done) | omega | (simp only [yz] <;> omega) | fail)) only [yg,seval,g6]
    · simp (disch := (first | (simp only [yk,seval]; done) | omega | (simp only [yz] <;> omega) | fail)) only [yg,seval]
    · simp (disch := (first | (simp only [yk,seval]; done) | omega | (simp only [yz] <;> omega) | fail)) only [yg,seval]
  clear hlt sz I g5 g6 hc hd
  rintro e H' ⟨fr, wn, I, g5, g6, hfr, hwn, g9, g10, hc, hd⟩
  have sz := I.fr.size
  refine W_seqI (fun e' H'' => ∃ t v, LQ 255 7 8 H C w ld l i8 i9 a' cap' e' H'' ∧ gt 255 e' 5 = .pointer (some ⟨H.size, 0, none⟩) ∧ gt 255 e' 6 = .pointer (some ⟨H.size + 1, 0, none⟩) ∧ gt 255 e' 9 = .int .i64 fr ∧ gt 255 e' 10 = .int .i64 wn ∧ gt 255 e' 11 = v ∧ t.Perm (idx l.length) ∧ RowN H'' v t (H.size + 2) H''.size ∧ Chu H'' H.size a bs cap ∧ Chu H'' (H.size + 1) b2 bs2 cap2) ?_ ?_
  · have l8 := I.l8
    have g7 := I.g8
    have b8 := I.b8
    have hlt := hc.lt
    simp (disch := (first | (simp only [yk,seval]; done) | omega | (simp only [yz] <;> omega) | fail)) only [↓yp,yq0,yq1,yq2,yq3,yq4,yl,ys0,ys1,seval,zed,zee,zfr,zhw,ysu,yrg,ysv,ysw,ysx,ysz,ysa,g5,g7,b8,lenV_slice zio]
    refine c67 hc (by omega) (by omega) (by omega) ?_
    intro f v t H1 hpm hrow hc1 hx1
    have hx1s := hx1.size
    have hd1 := hd.frx hc (by omega) hx1
    simp (disch := (first | (simp only [yk,seval]; done) | omega | (simp only [yz] <;> omega) | fail)) only [↓yp,yq0,yq1,yq2,yq3,yq4,yl,ys0,ys1,seval,zed,zee,zfr,zhw,ysu,yrg,ysv,ysw,ysx,ysz,ysa]
    refine ⟨t, v, I.frx (by omega) (by omega) (Nat.le_refl _) hc hx1 (by (with_reducible (repeat (first | refine Keep.put ?_ (by decide) | refine Keep.none ?_ | assumption | exact Keep.refl _ _ _)))), ?_, ?_, ?_, ?_, ?_, hpm, ⟨hrow.nil, fun h => ?_⟩, hc1, hd1⟩
    · simp (disch := (first | (simp only [yk,seval]; done) | omega | (simp only [yz] <;> omega) | fail)) only [yg,seval,g5]
    · simp (disch := (first | (simp only [yk,seval]; done) | omega | (simp only [yz] <;> omega) | fail)) only [yg,seval,g6]
    · simp (disch := (first | (simp only [yk,seval]; done) | omega | (simp only [yz] <;> omega) | fail)) only [yg,seval,g9]
    · simp (disch := (first | (simp only [yk,seval]; done) | omega | (simp only [yz] <;> omega) | fail)) only [yg,seval,g10]
    · simp (disch := (first | (simp only [yk,seval]; done) | omega | (simp only [yz] <;> omega) | fail)) only [yg,seval]
    · obtain ⟨b, al, h1, h2, h3, h4, h5⟩ := hrow.cons h
      have := hd.lt
      exact ⟨b, al, h1, by omega, h3, fun j hj => by have := h4 j hj; omega, h5⟩
  clear sz I g5 g6 g9 g10 hc hd
  rintro e H' ⟨t, v, I, g5, g6, g9, g10, g11, hpm, hrow, hc, hd⟩
  have sz := I.fr.size
  have hlt := hd.lt
  have htl : t.length = l.length := by rw [hpm.length_eq]; unfold idx; simp
  have hnd : t.Nodup := hpm.nodup_iff.2 idx_nodup
  have hmem : ∀ s ∈ t, 0 ≤ s ∧ s < l.length := fun s hs => idx_mem (hpm.mem_iff.1 hs)
  have mk : ∀ (n : Nat), n ≤ 5 → Tx C w ld l a' cap' fr wn (t.take n) := fun n hn5 => ⟨hC28, by omega, ho, hn, by omega, by omega, hfr, hwn, hnd.sublist (List.take_sublist _ _), fun s hs => hmem s (List.mem_of_mem_take hs), by rw [List.length_take]; omega⟩
  refine W_seqI (fun e' H'' => ∃ ts v11, Tx C w ld l a' cap' fr wn ts ∧ TU H C w ld l i8 i9 a' cap' b2 bs2 cap2 fr wn ts v11 e' H'') ?_ ?_
  rotate_left
  · rintro e H' ⟨ts, v11, X, I⟩
    exact hr _ _ _ _ _ _ _ _ _ _ _ _ _ _ X I
  have hfin : ∀ (e' : VT) (H'' : AHeap) (n1 : Int), FrX H.size H' H'' → 0 ≤ n1 ∧ n1 ≤ 5 → Chu H'' H.size a bs cap → Keep 255 [6, 7, 8, 9, 10] e e' → gt 255 e' 11 = cutV v (min t.length n1.toNat) → TU H C w ld l i8 i9 a' cap' b2 bs2 cap2 fr wn (t.take n1.toNat) (gt 255 e' 11) e' H'' := fun e' H'' n1 fx hn1 hc' hk h11 => by
    have hd' := hd.frx hc (by omega) fx
    refine ⟨I.frx (by omega) (by omega) (Nat.le_refl _) hc fx (fun p hp => hk p (by simp at hp ⊢; omega)), (hk 6 (by simp)).trans g6, (hk 9 (by simp)).trans g9, (hk 10 (by simp)).trans g10, rfl, ?_, hk8, hk9, hd'⟩
    by_cases hne : t = []
    · subst hne
      rw [hrow.nil rfl] at h11
      rw [h11]
      exact .inl ⟨by simp [cutV], by simp⟩
    · obtain ⟨b, al, rfl, r1, r2, r3, r4⟩ := hrow.cons hne
      rw [h11]
      refine .inr ⟨b, t.drop n1.toNat, al, by simp [cutV, List.length_take, Nat.min_comm], by omega, Nat.lt_of_lt_of_le r2 fx.size, ?_⟩
      rw [List.take_append_drop, fx.same _ r2 (by omega)]
      exact r4
  by_cases hne : t = []
  · subst hne
    have hv := hrow.nil rfl
    simp (disch := (first | (simp only [yk,seval]; done) | omega | (simp only [yz] <;> omega) | fail)) only [↓yp,yq0,yq1,yq2,yq3,yq4,yl,ys0,ys1,seval,zed,zee,zfr,zhw,ysu,yrg,ysv,ysw,ysx,ysz,ysa,g5,g11,hv,lenV_slice zir]
    refine c51 hc (by omega) (by omega) (by omega) ?_
    intro f n1 H1 hff hp1 hc1 hx1 hs1
    have hmn : (if n1 < ((0 : Nat) : Int) then n1 else ((0 : Nat) : Int)) = 0 := by obtain ⟨p1, p2⟩ := hp1; split <;> omega
    have hmn' : (if n1 < 0 then n1 else 0) = 0 := by obtain ⟨p1, p2⟩ := hp1; split <;> omega
    simp (disch := (first | (simp only [yk,seval]; done) | omega | (simp only [yz] <;> omega) | fail)) only [↓yp,yq0,yq1,yq2,yq3,yq4,yl,ys0,ys1,seval,zed,zee,zfr,zhw,ysu,yrg,ysv,ysw,ysx,ysz,ysa,A_min,mm_min,hmn,hmn']
    refine A_sliceNF zir (by simp (disch := (first | (simp only [yk,seval]; done) | omega | (simp only [yz] <;> omega) | fail)) only [↓yp,yq0,yq1,yq2,yq3,yq4,yl,ys0,ys1,seval,zed,zee,zfr,zhw,ysu,yrg,ysv,ysw,ysx,ysz,ysa,g11,hv]) (by simp (disch := (first | (simp only [yk,seval]; done) | omega | (simp only [yz] <;> omega) | fail)) only [↓yp,yq0,yq1,yq2,yq3,yq4,yl,ys0,ys1,seval,zed,zee,zfr,zhw,ysu,yrg,ysv,ysw,ysx,ysz,ysa]) (by omega) ?_
    simp (disch := (first | (simp only [yk,seval]; done) | omega | (simp only [yz] <;> omega) | fail)) only [↓yp,yq0,yq1,yq2,yq3,yq4,yl,ys0,ys1,seval,zed,zee,zfr,zhw,ysu,yrg,ysv,ysw,ysx,ysz,ysa]
    refine ⟨_, _, mk n1.toNat (by obtain ⟨p1, p2⟩ := hp1; omega), hfin _ _ n1 hx1 (by obtain ⟨p1, p2⟩ := hp1; omega) hc1 (by (with_reducible (repeat (first | refine Keep.put ?_ (by decide) | refine Keep.none ?_ | assumption | exact Keep.refl _ _ _)))) ?_⟩
    simp (disch := (first | (simp only [yk,seval]; done) | omega | (simp only [yz] <;> omega) | fail)) only [yg,seval,hv]
    simp [cutV]
  · obtain ⟨b, al, hv, r1, r2, r3, r4⟩ := hrow.cons hne
    simp (disch := (first | (simp only [yk,seval]; done) | omega | (simp only [yz] <;> omega) | fail)) only [↓yp,yq0,yq1,yq2,yq3,yq4,yl,ys0,ys1,seval,zed,zee,zfr,zhw,ysu,yrg,ysv,ysw,ysx,ysz,ysa,g5,g11,hv,lenV_slice zir]
    refine c51 hc (by omega) (by omega) (by omega) ?_
    intro f n1 H1 hff hp1 hc1 hx1 hs1
    have hx1s := hx1.size
    have hn1 : 0 ≤ n1 ∧ n1 ≤ 5 := by obtain ⟨p1, p2⟩ := hp1; omega
    have hmn : (if n1 < (t.length : Int) then n1 else (t.length : Int)) = ((min t.length n1.toNat : Nat) : Int) := by split <;> omega
    simp (disch := (first | (simp only [yk,seval]; done) | omega | (simp only [yz] <;> omega) | fail)) only [↓yp,yq0,yq1,yq2,yq3,yq4,yl,ys0,ys1,seval,zed,zee,zfr,zhw,ysu,yrg,ysv,ysw,ysx,ysz,ysa,A_min,mm_min,hmn]
    refine A_sliceF (j := min t.length n1.toNat) (b := b) (o := 0) (n := t.length) (kn := t.length) zir (by simp (disch := (first | (simp only [yk,seval]; done) | omega | (simp only [yz] <;> omega) | fail)) only [↓yp,yq0,yq1,yq2,yq3,yq4,yl,ys0,ys1,seval,zed,zee,zfr,zhw,ysu,yrg,ysv,ysw,ysx,ysz,ysa,g11,hv]) (by simp (disch := (first | (simp only [yk,seval]; done) | omega | (simp only [yz] <;> omega) | fail)) only [↓yp,yq0,yq1,yq2,yq3,yq4,yl,ys0,ys1,seval,zed,zee,zfr,zhw,ysu,yrg,ysv,ysw,ysx,ysz,ysa]) (known_off (m := t.length) (by rw [hx1.same _ r2 (by omega)]; exact r4) (by rw [tv_len]; rfl) (Nat.le_refl _)) (by omega) (by omega) ?_
    simp (disch := (first | (simp only [yk,seval]; done) | omega | (simp only [yz] <;> omega) | fail)) only [↓yp,yq0,yq1,yq2,yq3,yq4,yl,ys0,ys1,seval,zed,zee,zfr,zhw,ysu,yrg,ysv,ysw,ysx,ysz,ysa]
    refine ⟨_, _, mk n1.toNat (by omega), hfin _ _ n1 hx1 hn1 hc1 (by (with_reducible (repeat (first | refine Keep.put ?_ (by decide) | refine Keep.none ?_ | assumption | exact Keep.refl _ _ _)))) ?_⟩
    simp (disch := (first | (simp only [yk,seval]; done) | omega | (simp only [yz] <;> omega) | fail)) only [yg,seval,hv]
    rfl
end
end Go.Am
