import Derived.Test.YtbofjfjopeaefaaT31
import Derived.Test.YtbofjfjopeaefaaT34
set_option linter.unusedSimpArgs false
set_option linter.unusedVariables false
namespace Go.Am.K
open Go.Proofs
variable {T : Tab} {P : Program} {N L : Nat} {H H' H'' : AHeap} {Q : Bool → Value → AHeap → Prop}
structure Gw (H : AHeap) (tb : Nat) (S : Nat → Prop) (v : Value) (i : Nat) (cs : List Value) (el z : Nat) : Prop where
 nil : i = 0 → v = .slice none 0 0
 cons : i ≠ 0 → ∃ b al, v = .slice (some ⟨b, 0, none⟩) i (OPEN + z) ∧ S b ∧ H.get b = .rw cs el true al ∧ (∀ j ∈ al, S j)
 own : ∀ j, S j → tb < j ∧ j < H.size
section
variable {tb i el z by' b cap : Nat} {S : Nat → Prop} {v sv : Value} {cs news : List Value}
theorem Gw.same (g : Gw H tb S v i cs el z) (h : H.size ≤ H'.size) (hs : ∀ j, S j → H'.get j = H.get j) : Gw H' tb S v i cs el z :=
 ⟨g.nil, fun h0 => by
  obtain ⟨b, al, h1, h2, h3, h4⟩ := g.cons h0
  exact ⟨b, al, h1, h2, by rw [hs b h2]; exact h3, h4⟩, fun j hj => ⟨(g.own j hj).1, Nat.lt_of_lt_of_le (g.own j hj).2 h⟩⟩
theorem Gw.fr (g : Gw H tb S v i cs el z) (f : Fr H H') : Gw H' tb S v i cs el z := g.same f.size fun j hj => f.same j (g.own j hj).2
theorem Gw.frx {k : Nat} (g : Gw H tb S v i cs el z) (hk : ¬ S k) (f : FrX k H H') : Gw H' tb S v i cs el z := g.same f.size fun j hj => f.same j (g.own j hj).2 (by rintro rfl; exact hk hj)
theorem Gw.put {j : Nat} (g : Gw H tb S v i cs el z) (hj : ¬ S j) (blk : ABlk) : Gw (H.put j blk) tb S v i cs el z := g.same (by rw [size_put]; exact Nat.le_refl _) fun q hq => get_put_ne (by rintro rfl; exact hj hq)
theorem Gw.none : Gw H tb (fun _ => False) (.slice none 0 0) 0 [] el z := ⟨fun _ => rfl, fun h => absurd rfl h, fun _ h => h.elim⟩
theorem gw_append {ty : TypeId} (hs : apS tabA ty = some (el, z, by')) (g : Gw H tb S sv i cs el z) (htb : tb < H.size) (hcs : cs.length = i * z) (hx : srcCells H ⟨b, 0, none⟩ (1 * z) = some news) (hb : (i + 1) * by' ≤ 140737488355328) (hn : i + 1 ≤ 9223372036854775807)
  (h1 : oneCells news = true) (hL : L ≤ tb) (hq : ∀ a' c' H', H.size < H'.size → (∀ j, j < H.size → ¬ S j → H'.get j = H.get j) → Gw H' tb (fun j => S j ∨ j = H.size) (.slice a' (i + 1) c') (i + 1) (cs ++ news) el z → Q false (.slice a' (i + 1) c') H') : apK tabA H ty sv (.slice (some ⟨b, 0, none⟩) 1 cap) L Q := by
 by_cases hi : i = 0
 ·subst hi
  rw [g.nil rfl, apK_nil hs hx (by omega) (by omega) (by omega) h1, andK_of _ (by omega)]
  refine hq _ _ _ (by simp only [size_alloc]; omega) (fun k hk _ => get_alloc_lt (by omega)) ⟨fun h => by omega, fun _ => ⟨H.size, [], rfl, .inr rfl, ?_, by simp⟩, fun j hj => ?_⟩
  ·have : cs = [] := List.length_eq_zero_iff.1 (by omega)
   subst this
   exact get_alloc_same
  ·rcases hj with hj | rfl
   ·have := g.own j hj
    simp only [size_alloc]; omega
   ·simp only [size_alloc]; omega
 ·obtain ⟨b₀, al, rfl, k1, k3, k4⟩ := g.cons hi
  have k2 := (g.own _ k1).1
  rw [apK_more hs hx (by omega) (by exact hb) (by omega) h1 k3 hcs rfl, andK_of _ (le_minAl (by omega) (fun j hj => by have := (g.own j (k4 j hj)).1; omega))]
  refine hq _ _ _ (by simp only [size_alloc,size_put,size_kill]; omega) (fun k hk hS => ?_) ⟨fun h => by omega, fun _ => ⟨H.size, [b₀], rfl, .inr rfl, ?_, by simpa using .inl k1⟩, fun j hj => ?_⟩
  ·rw [get_alloc_lt (by simp only [size_put,size_kill]; omega), get_put_ne (by rintro rfl; exact hS k1), get_kill (fun hm => hS (k4 k hm))]
  ·exact get_alloc_eq (by simp only [size_put,size_kill])
  ·simp only [size_alloc,size_put,size_kill]
   rcases hj with hj | rfl
   ·have := g.own j hj; omega
   ·omega
end
structure Rx {α : Type} (k : Nat) (E : Enc α) (H : AHeap) (a : Option Addr) (l : List α) : Prop where
 rw : Rw E H a l
 ne : l ≠ [] → ∀ b o s, a = some ⟨b, o, s⟩ → b ≠ k
theorem Rx.frx {α : Type} {E : Enc α} {l : List α} {k : Nat} {a : Option Addr} (h : Rx k E H a l) (f : FrX k H H') : Rx k E H' a l := ⟨⟨fun hl => by
 obtain ⟨b, o, c, h1, h2, h3, h4⟩ := h.rw.get hl
 exact ⟨b, o, c, h1, Nat.lt_of_lt_of_le h2 f.size, by rw [f.same b h2 (h.ne hl _ _ _ h1)]; exact h3, h4⟩⟩, h.ne⟩
theorem Rx.fr {α : Type} {E : Enc α} {l : List α} {k : Nat} {a : Option Addr} (h : Rx k E H a l) (f : Fr H H') : Rx k E H' a l := ⟨h.rw.fr f, h.ne⟩
theorem Gw.rx {α : Type} {E : Enc α} {l : List α} {k tb c el : Nat} {S : Nat → Prop} {a : Option Addr} (g : Gw H tb S (.slice a l.length c) l.length (E.fl l) el E.z) (hk : ¬ S k) : Rx k E H a l := ⟨⟨fun hne => by
 obtain ⟨b, al, h1, h2, h4, h5⟩ := g.cons (by simpa using hne)
 cases h1
 exact (Rw.of (r := []) (g.own _ h2).2 (by rw [h4]; rfl) (by rw [List.append_nil])).get hne⟩, fun hne b o s e => by
 obtain ⟨b', al, h1, h2, h4, h5⟩ := g.cons (by simpa using hne)
 cases h1
 cases e
 exact fun e => hk (by rw [← e]; exact h2)⟩
structure PkIn (M : Int) (p : Pk) (r : Int) : Prop where
 s : 1 ≤ p.s ∧ p.s ≤ M
 w : 0 ≤ p.w ∧ p.w ≤ p.s ∧ p.w ≤ 3
 o : 0 ≤ p.o ∧ p.o ≤ p.s
 f : 0 ≤ p.f ∧ p.f ≤ p.o
 re : p.f ≤ r ∧ r ≤ p.w
 c : p.o - p.f ≤ p.s - r
structure MP (H H' : AHeap) (k : Nat) (a : Option Addr) (bs : List Int) (cap : Nat) (M n : Int) (i : Nat) (ps : List Pk) (rs : List Int) (S1 S2 : Nat → Prop) (v1 v2 : Value) (e : VT) : Prop where
 g19 : gt 120 e 19 = .int .i64 (i : Nat)
 g18 : gt 120 e 18 = .int .i64 n
 g9 : gt 120 e 9 = v2
 g8 : gt 120 e 8 = .pointer (some ⟨H.size + 1, 0, none⟩)
 g6 : gt 120 e 6 = .pointer (some ⟨H.size, 0, none⟩)
 g2 : gt 120 e 2 = .int .i64 M
 g0 : gt 120 e 0 = .pointer (some ⟨k, 0, none⟩)
 chu : Chu H' k a bs cap
 fr : FrX k H H'
 sz : H.size + 1 < H'.size
 b8 : H'.get (H.size + 1) = .rw [v1, .slice none 0 0, .int .i64 0] 25 false []
 b6 : H'.get H.size = .rw [.slice none 0 0, .slice none 0 0, .int .i64 0] 25 false []
 r1 : Gw H' (H.size + 1) S1 v1 i (pkE.fl ps) 87 4
 r2 : Gw H' (H.size + 1) S2 v2 i (intE.fl rs) 3 1
 dj : ∀ j, S1 j → ¬ S2 j
 l1 : ps.length = i
 l2 : rs.length = i
 ok : ∀ (j : Nat) (p : Pk) (r : Int), ps[j]? = some p → rs[j]? = some r → PkIn M p r
section
variable {k cap i j : Nat} {a : Option Addr} {bs : List Int} {M n : Int} {ps : List Pk} {rs : List Int} {S1 S2 : Nat → Prop} {v1 v2 : Value} {e e' : VT}
theorem MP.next (I : MP H H' k a bs cap M n i ps rs S1 S2 v1 v2 e) (hc : Chu H'' k a bs cap) (hk : k < H.size) (hs : H'.size ≤ H''.size) (f : ∀ q, q < H'.size → q ≠ k → (q < H.size ∨ q = H.size ∨ q = H.size + 1 ∨ S1 q ∨ S2 q) → H''.get q = H'.get q) (h : Keep 120 [0, 2, 6, 8, 9, 18, 19] e e') : MP H H'' k a bs cap M n i ps rs S1 S2 v1 v2 e' where
 g19 := (h 19 (by decide)).trans I.g19
 g18 := (h 18 (by decide)).trans I.g18
 g9 := (h 9 (by decide)).trans I.g9
 g8 := (h 8 (by decide)).trans I.g8
 g6 := (h 6 (by decide)).trans I.g6
 g2 := (h 2 (by decide)).trans I.g2
 g0 := (h 0 (by decide)).trans I.g0
 chu := hc
 fr := ⟨Nat.le_trans I.fr.size hs, fun q h1 h2 => (f q (Nat.lt_of_lt_of_le h1 I.fr.size) h2 (.inl h1)).trans (I.fr.same q h1 h2)⟩
 sz := Nat.lt_of_lt_of_le I.sz hs
 b8 := (f _ I.sz (by omega) (.inr (.inr (.inl rfl)))).trans I.b8
 b6 := (f _ (by have := I.sz; omega) (by omega) (.inr (.inl rfl))).trans I.b6
 r1 := I.r1.same hs fun q hq => f q (I.r1.own q hq).2 (by have := (I.r1.own q hq).1; omega) (.inr (.inr (.inr (.inl hq))))
 r2 := I.r2.same hs fun q hq => f q (I.r2.own q hq).2 (by have := (I.r2.own q hq).1; omega) (.inr (.inr (.inr (.inr hq))))
 dj := I.dj
 l1 := I.l1
 l2 := I.l2
 ok := I.ok
theorem MP.frx (I : MP H H' k a bs cap M n i ps rs S1 S2 v1 v2 e) (hk : k < H.size) (hc : Chu H'' k a bs cap) (f : FrX k H' H'') (h : Keep 120 [0, 2, 6, 8, 9, 18, 19] e e') : MP H H'' k a bs cap M n i ps rs S1 S2 v1 v2 e' :=
 I.next hc hk f.size (fun q h1 h2 _ => f.same q h1 h2) h
theorem MP.fr' (I : MP H H' k a bs cap M n i ps rs S1 S2 v1 v2 e) (hk : k < H.size) (f : Fr H' H'') (h : Keep 120 [0, 2, 6, 8, 9, 18, 19] e e') : MP H H'' k a bs cap M n i ps rs S1 S2 v1 v2 e' :=
 I.frx hk (I.chu.fr f) (FrX.of f) h
theorem MP.put {c : List Value} {ty : TypeId} {al : List Nat} (I : MP H H' k a bs cap M n i ps rs S1 S2 v1 v2 e) (hk : k < H.size) (hj : H.size + 1 < j) (hb : H'.get j = .rw c ty false al) (n1 : ¬ S1 j) (n2 : ¬ S2 j) (blk : ABlk) : MP H (H'.put j blk) k a bs cap M n i ps rs S1 S2 v1 v2 e :=
 I.next (I.chu.other (by omega) (fun c' e => by rw [hb] at e; cases e)) hk (by rw [size_put]; exact Nat.le_refl _) (fun q h1 h2 h3 => get_put_ne (by
  rcases h3 with h | h | h | h | h
  ·omega
  ·omega
  ·omega
  ·exact fun e => n1 (e ▸ h)
  ·exact fun e => n2 (e ▸ h))) (Keep.refl _ _ _)
theorem MP.new (I : MP H H' k a bs cap M n i ps rs S1 S2 v1 v2 e) (hj : H'.size ≤ j) : ¬ S1 j ∧ ¬ S2 j := ⟨fun h => by have := (I.r1.own j h).2; omega, fun h => by have := (I.r2.own j h).2; omega⟩
set_option maxHeartbeats 1000000 in
theorem c33a (hk : k < H.size) (hL : L ≤ k) (hM : 1 ≤ M ∧ M ≤ 6) (I : MP H H' k a bs cap M n i ps rs S1 S2 v1 v2 e) :
  W tabA Try.prog (N + 600) none (sub [true, true, true, false, true, false, false, true, true, false, false, false] (bodyOf Try.f33)) L ⟨120, e, H', []⟩ (endK 120 [] fun e' H'' => ∃ s : Int, MP H H'' k a bs cap M n i ps rs S1 S2 v1 v2 e' ∧ gt 120 e' 10 = .pointer (some ⟨H'.size, 0, none⟩) ∧ H'.size < H''.size ∧ H''.get H'.size = .rw [.int .i64 s, .int .i64 0, .int .i64 0, .int .i64 0] 87 false [] ∧ 1 ≤ s ∧ s ≤ M) := by
 have g0 := I.g0
 have sz := I.sz
 have g2 := I.g2
 have hm : (if M > 1 then M else 1) = M := by split <;> omega
 simp only [Try.f33,bodyOf,sub_nil,sub_seq0,sub_seq1,sub_block,sub_loop,sub_cond0,sub_cond1]
 simp (disch:=first|(simp only [yk,seval];done)|omega|(simp only [yz]<;>omega)|fail) only [↓yp,yA,ys0,ys1,seval,fitB,newC,endD,endR,yrg,g0,g2,A_max,mm_max,hm]
 refine c51 I.chu hL (by omega) (by omega) ?_
 rintro f1 s H1 - p1 p2 hc1 hx1 hs1
 simp (disch:=first|(simp only [yk,seval];done)|omega|(simp only [yz]<;>omega)|fail) only [↓yp,yA,ys0,ys1,seval,fitB,newC,endD,endR,yrg,A_build st_bdS_87]
 have hn := I.new (j := H1.size) (by omega)
 refine ⟨s, (((I.frx hk hc1 hx1 (by (with_reducible repeat first|refine Keep.put ?_ (by decide)|refine Keep.none ?_|assumption|exact Keep.refl _ _ _))).fr' hk (Fr.alloc _ _) (Keep.refl _ _ _)).put hk (j := H1.size) (c := [.int .i64 0, .int .i64 0, .int .i64 0, .int .i64 0]) (ty := 87) (al := []) (by have := I.sz; omega) get_alloc_same hn.1 hn.2 _), ?_, by (first | omega | (simp only [yz] <;> omega)), ?_, p1, p2⟩
 ·rw [← hs1]; simp (disch:=first|(simp only [yk,seval];done)|omega|(simp only [yz]<;>omega)|fail) only [yg,seval]
 ·rw [← hs1]; exact get_put_same (by first|omega|(simp only [yz]<;>omega))
set_option maxHeartbeats 1000000 in
theorem c33b {s : Int} (hk : k < H.size) (hL : L ≤ k) (hs : 1 ≤ s ∧ s ≤ 6) (I : MP H H' k a bs cap M n i ps rs S1 S2 v1 v2 e) (g10 : gt 120 e 10 = .pointer (some ⟨j, 0, none⟩)) (hj : H.size + 1 < j) (hjs : j < H'.size) (n1 : ¬ S1 j) (n2 : ¬ S2 j) (hb : H'.get j = .rw [.int .i64 s, .int .i64 0, .int .i64 0, .int .i64 0] 87 false []) :
  W tabA Try.prog (N + 600) none (sub [true, true, true, false, true, false, false, true, true, false, false, true, false] (bodyOf Try.f33)) L ⟨120, e, H', []⟩ (endK 120 [] fun e' H'' => ∃ w : Int, MP H H'' k a bs cap M n i ps rs S1 S2 v1 v2 e' ∧ gt 120 e' 10 = .pointer (some ⟨j, 0, none⟩) ∧ j < H''.size ∧ H''.get j = .rw [.int .i64 s, .int .i64 w, .int .i64 0, .int .i64 0] 87 false [] ∧ 0 ≤ w ∧ w ≤ s ∧ w ≤ 3) := by
 have g0 := I.g0
 have sz := I.sz
 obtain ⟨m3, hm3⟩ : ∃ m3, (if 3 < s then 3 else s) = m3 := ⟨_, rfl⟩
 have hm : m3 ≤ s ∧ m3 ≤ 3 ∧ 1 ≤ m3 := by rw [← hm3]; split <;> omega
 have w1 : w64 (m3 + 1) = m3 + 1 := w64_of (by omega)
 simp only [Try.f33,bodyOf,sub_nil,sub_seq0,sub_seq1,sub_block,sub_loop,sub_cond0,sub_cond1]
 simp (disch:=first|(simp only [yk,seval];done)|omega|(simp only [yz]<;>omega)|fail) only [↓yp,yA,ys0,ys1,seval,fitB,newC,endD,endR,yrg,g0,g10,hb,A_min,mm_min,hm3,w1]
 refine c42 I.chu hL (by omega) (by omega) ?_
 rintro f1 w H1 - ⟨p1, p2⟩ hc1 hx1 hs1
 have hb1 : H1.get j = .rw [.int .i64 s, .int .i64 0, .int .i64 0, .int .i64 0] 87 false [] := by
  rw [hx1.same j hjs (by omega)]; exact hb
 simp (disch:=first|(simp only [yk,seval];done)|omega|(simp only [yz]<;>omega)|fail) only [↓yp,yA,ys0,ys1,seval,fitB,newC,endD,endR,yrg,g10,hb1]
 refine ⟨w, (I.frx hk hc1 hx1 (by (with_reducible repeat first|refine Keep.put ?_ (by decide)|refine Keep.none ?_|assumption|exact Keep.refl _ _ _))).put hk hj hb1 n1 n2 _, ?_, by (first | omega | (simp only [yz] <;> omega)), get_put_same (by omega), p1, by omega, by omega⟩
 simp (disch:=first|(simp only [yk,seval];done)|omega|(simp only [yz]<;>omega)|fail) only [yg,seval,g10]
set_option maxHeartbeats 1000000 in
theorem c33c {s w : Int} (hk : k < H.size) (hL : L ≤ k) (hw : 0 ≤ w ∧ w ≤ 6) (I : MP H H' k a bs cap M n i ps rs S1 S2 v1 v2 e) (g10 : gt 120 e 10 = .pointer (some ⟨j, 0, none⟩)) (hj : H.size + 1 < j) (hjs : j < H'.size) (hb : H'.get j = .rw [.int .i64 s, .int .i64 w, .int .i64 0, .int .i64 0] 87 false []) :
  W tabA Try.prog (N + 600) none (sub [true, true, true, false, true, false, false, true, true, false, false, true, true, false] (bodyOf Try.f33)) L ⟨120, e, H', []⟩ (endK 120 [] fun e' H'' => ∃ r : Int, MP H H'' k a bs cap M n i ps rs S1 S2 v1 v2 e' ∧ gt 120 e' 10 = .pointer (some ⟨j, 0, none⟩) ∧ j < H''.size ∧ H''.get j = .rw [.int .i64 s, .int .i64 w, .int .i64 0, .int .i64 0] 87 false [] ∧ gt 120 e' 11 = .int .i64 r ∧ 0 ≤ r ∧ r ≤ w) := by
 have g0 := I.g0
 have sz := I.sz
 have w1 : w64 (w + 1) = w + 1 := w64_of (by omega)
 simp only [Try.f33,bodyOf,sub_nil,sub_seq0,sub_seq1,sub_block,sub_loop,sub_cond0,sub_cond1]
 simp (disch:=first|(simp only [yk,seval];done)|omega|(simp only [yz]<;>omega)|fail) only [↓yp,yA,ys0,ys1,seval,fitB,newC,endD,endR,yrg,g0,g10,hb,w1]
 refine c42 I.chu hL (by omega) (by omega) ?_
 rintro f1 r H1 - ⟨p1, p2⟩ hc1 hx1 hs1
 have hb1 : H1.get j = .rw [.int .i64 s, .int .i64 w, .int .i64 0, .int .i64 0] 87 false [] := by
  rw [hx1.same j hjs (by omega)]; exact hb
 simp (disch:=first|(simp only [yk,seval];done)|omega|(simp only [yz]<;>omega)|fail) only [↓yp,yA,ys0,ys1,seval,fitB,newC,endD,endR,yrg]
 refine ⟨r, I.frx hk hc1 hx1 (by (with_reducible repeat first|refine Keep.put ?_ (by decide)|refine Keep.none ?_|assumption|exact Keep.refl _ _ _)), ?_, by omega, hb1, ?_, p1, by omega⟩
 ·simp (disch:=first|(simp only [yk,seval];done)|omega|(simp only [yz]<;>omega)|fail) only [yg,seval,g10]
 ·simp (disch:=first|(simp only [yk,seval];done)|omega|(simp only [yz]<;>omega)|fail) only [yg,seval]
end
end Go.Am.K
namespace Go.Am.K
open Go.Proofs
variable {T : Tab} {P : Program} {N L : Nat} {H H' H'' : AHeap} {Q : Bool → Value → AHeap → Prop}
theorem st_apS_49 : apS tabA 49 = some (3, 1, 8) := by kernel_rfl
section
variable {k cap i j : Nat} {a : Option Addr} {bs : List Int} {M n : Int} {ps : List Pk} {rs : List Int} {S1 S2 : Nat → Prop} {v1 v2 : Value} {e e' : VT}
theorem Chu.again (h : Chu H k a bs cap) (f : FrX k H H'') (hb : ∃ u s : Int, H''.get k = .rw [.slice a bs.length cap, .int .i64 u, .int .u64 s] 145 false [] ∧ 0 ≤ u ∧ u ≤ bs.length ∧ 0 ≤ s ∧ s < 18446744073709551616) : Chu H'' k a bs cap where
 lt := Nat.lt_of_lt_of_le h.lt f.size
 blk := hb
 row hne := by
  obtain ⟨b, o, c, h1, h2, h3, h4⟩ := h.row hne
  obtain ⟨u, s, h5, _⟩ := h.blk
  exact ⟨b, o, c, h1, Nat.lt_of_lt_of_le h2 f.size, by rw [f.same b h2 (fun e => by subst e; rw [h5] at h3; cases h3)]; exact h3, h4⟩
 byte := h.byte
 len := h.len
set_option maxHeartbeats 2000000 in
theorem c33d {s w r : Int} (hk : k < H.size) (hL : L ≤ k) (hs : 1 ≤ s ∧ s ≤ M) (hM : M ≤ 6) (hw : 0 ≤ w ∧ w ≤ s ∧ w ≤ 3) (hr : 0 ≤ r ∧ r ≤ w) (I : MP H H' k a bs cap M n i ps rs S1 S2 v1 v2 e) (g10 : gt 120 e 10 = .pointer (some ⟨j, 0, none⟩)) (hj : H.size + 1 < j) (hjs : j < H'.size) (n1 : ¬ S1 j) (n2 : ¬ S2 j) (hb : H'.get j = .rw [.int .i64 s, .int .i64 w, .int .i64 0, .int .i64 0] 87 false []) (g11 : gt 120 e 11 = .int .i64 r) :
  W tabA Try.prog (N + 600) none (sub [true, true, true, false, true, false, false, true, true, false, false, true, true, true, false] (bodyOf Try.f33)) L ⟨120, e, H', []⟩ (endK 120 [] fun e' H'' => ∃ p : Pk, MP H H'' k a bs cap M n i ps rs S1 S2 v1 v2 e' ∧ gt 120 e' 10 = .pointer (some ⟨j, 0, none⟩) ∧ gt 120 e' 11 = .int .i64 r ∧ j < H''.size ∧ H''.get j = .rw p.enc 87 false [] ∧ PkIn M p r) := by
 have sz := I.sz
 simp only [Try.f33,bodyOf,sub_nil,sub_seq0,sub_seq1,sub_block,sub_loop,sub_cond0,sub_cond1]
 simp (disch:=first|(simp only [yk,seval];done)|omega|(simp only [yz]<;>omega)|fail) only [↓yp,yA,ys0,ys1,seval,fitB,newC,endD,endR,yrg,g11]
 refine W_while (n := 120) 500 (fun q e' H'' => ∃ o f l : Int, q = (s - o).toNat ∧ l = r - f ∧ MP H H'' k a bs cap M n i ps rs S1 S2 v1 v2 e' ∧ gt 120 e' 10 = .pointer (some ⟨j, 0, none⟩) ∧ gt 120 e' 11 = .int .i64 r ∧ gt 120 e' 12 = .int .i64 l ∧ j < H''.size ∧ H''.get j = .rw [.int .i64 s, .int .i64 w, .int .i64 o, .int .i64 f] 87 false [] ∧ (0 ≤ o ∧ o ≤ s) ∧ (0 ≤ f ∧ f ≤ o ∧ f ≤ r) ∧ o - f ≤ s - r)
  ?_ 6 s.toNat ⟨0, 0, r, by omega, by omega, I.frx hk I.chu (FrX.refl _ _) (by (with_reducible repeat first|refine Keep.put ?_ (by decide)|refine Keep.none ?_|assumption|exact Keep.refl _ _ _)), ?_, ?_, ?_, hjs, hb, by omega, by omega, by omega⟩ (by omega) (by omega)
 rotate_left
 ·simp (disch:=first|(simp only [yk,seval];done)|omega|(simp only [yz]<;>omega)|fail) only [yg,seval,g10]
 ·simp (disch:=first|(simp only [yk,seval];done)|omega|(simp only [yz]<;>omega)|fail) only [yg,seval,g11]
 ·simp (disch:=first|(simp only [yk,seval];done)|omega|(simp only [yz]<;>omega)|fail) only [yg,seval]
 clear hb g10 g11 hjs I sz
 rintro M1 q e H' ⟨o, f, l, rfl, hl, I, g10, g11, g12, hjs, hb, ho, hf, hc⟩
 refine W_seqI (fun e' H'' => MP H H'' k a bs cap M n i ps rs S1 S2 v1 v2 e' ∧ gt 120 e' 10 = .pointer (some ⟨j, 0, none⟩) ∧ gt 120 e' 11 = .int .i64 r ∧ gt 120 e' 12 = .int .i64 l ∧ j < H''.size ∧ H''.get j = .rw [.int .i64 s, .int .i64 w, .int .i64 o, .int .i64 f] 87 false [] ∧ o < s) ?_ ?_
 ·have sz := I.sz
  have g0 := I.g0
  have fin : ∀ e' H'', MP H H'' k a bs cap M n i ps rs S1 S2 v1 v2 e' → gt 120 e' 10 = .pointer (some ⟨j, 0, none⟩) → gt 120 e' 11 = .int .i64 r → j < H''.size → H''.get j = .rw [.int .i64 s, .int .i64 w, .int .i64 o, .int .i64 f] 87 false [] → ∃ p : Pk, MP H H'' k a bs cap M n i ps rs S1 S2 v1 v2 e' ∧ gt 120 e' 10 = .pointer (some ⟨j, 0, none⟩) ∧ gt 120 e' 11 = .int .i64 r ∧ j < H''.size ∧ H''.get j = .rw p.enc 87 false [] ∧ PkIn M p r := fun e' H'' h1 h2 h3 h4 h5 => ⟨⟨s, w, o, f⟩, h1, h2, h3, h4, h5, hs, hw, ho, ⟨hf.1, hf.2.1⟩, ⟨hf.2.2, hr.2⟩, hc⟩
  cases hA : decide (o < s)
  ·simp (disch:=first|(simp only [yk,seval];done)|omega|(simp only [yz]<;>omega)|fail) only [↓yp,yA,ys0,ys1,seval,fitB,newC,endD,endR,yrg,g10,hb,hA]
   refine fin _ _ (I.frx hk I.chu (FrX.refl _ _) (by (with_reducible repeat first|refine Keep.put ?_ (by decide)|refine Keep.none ?_|assumption|exact Keep.refl _ _ _))) ?_ ?_ hjs hb
   ·simp (disch:=first|(simp only [yk,seval];done)|omega|(simp only [yz]<;>omega)|fail) only [yg,seval,g10]
   ·simp (disch:=first|(simp only [yk,seval];done)|omega|(simp only [yz]<;>omega)|fail) only [yg,seval,g11]
  ·simp (disch:=first|(simp only [yk,seval];done)|omega|(simp only [yz]<;>omega)|fail) only [↓yp,yA,ys0,ys1,seval,fitB,newC,endD,endR,yrg,g10,g0,hb,hA]
   refine c89 I.chu hL (by omega) (by omega) ?_
   rintro f1 v H1 hc1 hx1 hs1
   have hb1 : H1.get j = .rw [.int .i64 s, .int .i64 w, .int .i64 o, .int .i64 f] 87 false [] := by
    rw [hx1.same j hjs (by omega)]; exact hb
   cases v
   ·simp (disch:=first|(simp only [yk,seval];done)|omega|(simp only [yz]<;>omega)|fail) only [↓yp,yA,ys0,ys1,seval,fitB,newC,endD,endR,yrg]
    refine ⟨I.frx hk hc1 hx1 (by (with_reducible repeat first|refine Keep.put ?_ (by decide)|refine Keep.none ?_|assumption|exact Keep.refl _ _ _)), ?_, ?_, ?_, by omega, hb1, of_decide_eq_true hA⟩
    ·simp (disch:=first|(simp only [yk,seval];done)|omega|(simp only [yz]<;>omega)|fail) only [yg,seval,g10]
    ·simp (disch:=first|(simp only [yk,seval];done)|omega|(simp only [yz]<;>omega)|fail) only [yg,seval,g11]
    ·simp (disch:=first|(simp only [yk,seval];done)|omega|(simp only [yz]<;>omega)|fail) only [yg,seval,g12]
   ·simp (disch:=first|(simp only [yk,seval];done)|omega|(simp only [yz]<;>omega)|fail) only [↓yp,yA,ys0,ys1,seval,fitB,newC,endD,endR,yrg]
    refine fin _ _ (I.frx hk hc1 hx1 (by (with_reducible repeat first|refine Keep.put ?_ (by decide)|refine Keep.none ?_|assumption|exact Keep.refl _ _ _))) ?_ ?_ (by omega) hb1
    ·simp (disch:=first|(simp only [yk,seval];done)|omega|(simp only [yz]<;>omega)|fail) only [yg,seval,g10]
    ·simp (disch:=first|(simp only [yk,seval];done)|omega|(simp only [yz]<;>omega)|fail) only [yg,seval,g11]
 clear hb g10 g11 g12 hjs I
 rintro e H' ⟨I, g10, g11, g12, hjs, hb, hos⟩
 refine W_seqI (fun e' H'' => ∃ f l : Int, l = r - f ∧ MP H H'' k a bs cap M n i ps rs S1 S2 v1 v2 e' ∧ gt 120 e' 10 = .pointer (some ⟨j, 0, none⟩) ∧ gt 120 e' 11 = .int .i64 r ∧ gt 120 e' 12 = .int .i64 l ∧ j < H''.size ∧ H''.get j = .rw [.int .i64 s, .int .i64 w, .int .i64 o, .int .i64 f] 87 false [] ∧ (0 ≤ f ∧ f ≤ o + 1 ∧ f ≤ r) ∧ o + 1 - f ≤ s - r) ?_ ?_
 ·have sz := I.sz
  have g0 := I.g0
  have w1 : w64 (s - r) = s - r := w64_of (by omega)
  have w2 : w64 (o - f) = o - f := w64_of (by omega)
  have w3 : w64 (s - r - (o - f)) = s - r - (o - f) := w64_of (by omega)
  have w4 : w64 (l - 1) = l - 1 := w64_of (by omega)
  have w5 : w64 (f + 1) = f + 1 := w64_of (by omega)
  cases hA : decide (0 < l)
  ·have hA' := of_decide_eq_false hA
   simp (disch:=first|(simp only [yk,seval];done)|omega|(simp only [yz]<;>omega)|fail) only [↓yp,yA,ys0,ys1,seval,fitB,newC,endD,endR,yrg,g10,g11,g12,hb,w1,w2,w3,hA]
   refine ⟨f, l, hl, I.frx hk I.chu (FrX.refl _ _) (by (with_reducible repeat first|refine Keep.put ?_ (by decide)|refine Keep.none ?_|assumption|exact Keep.refl _ _ _)), ?_, ?_, ?_, hjs, hb, by omega, by omega⟩
   ·simp (disch:=first|(simp only [yk,seval];done)|omega|(simp only [yz]<;>omega)|fail) only [yg,seval,g10]
   ·simp (disch:=first|(simp only [yk,seval];done)|omega|(simp only [yz]<;>omega)|fail) only [yg,seval,g11]
   ·simp (disch:=first|(simp only [yk,seval];done)|omega|(simp only [yz]<;>omega)|fail) only [yg,seval,g12]
  have hA' := of_decide_eq_true hA
  cases hB : decide (s - r - (o - f) = 0)
  ·have hB' := of_decide_eq_false hB
   simp (disch:=first|(simp only [yk,seval];done)|omega|(simp only [yz]<;>omega)|fail) only [↓yp,yA,ys0,ys1,seval,fitB,newC,endD,endR,yrg,g10,g11,g12,g0,hb,w1,w2,w3,hA,hB]
   refine c89 I.chu hL (by omega) (by omega) ?_
   rintro f1 v H1 hc1 hx1 hs1
   have hb1 : H1.get j = .rw [.int .i64 s, .int .i64 w, .int .i64 o, .int .i64 f] 87 false [] := by
    rw [hx1.same j hjs (by omega)]; exact hb
   cases v
   ·simp (disch:=first|(simp only [yk,seval];done)|omega|(simp only [yz]<;>omega)|fail) only [↓yp,yA,ys0,ys1,seval,fitB,newC,endD,endR,yrg]
    refine ⟨f, l, hl, I.frx hk hc1 hx1 (by (with_reducible repeat first|refine Keep.put ?_ (by decide)|refine Keep.none ?_|assumption|exact Keep.refl _ _ _)), ?_, ?_, ?_, by omega, hb1, by omega, by omega⟩
    ·simp (disch:=first|(simp only [yk,seval];done)|omega|(simp only [yz]<;>omega)|fail) only [yg,seval,g10]
    ·simp (disch:=first|(simp only [yk,seval];done)|omega|(simp only [yz]<;>omega)|fail) only [yg,seval,g11]
    ·simp (disch:=first|(simp only [yk,seval];done)|omega|(simp only [yz]<;>omega)|fail) only [yg,seval,g12]
   ·simp (disch:=first|(simp only [yk,seval];done)|omega|(simp only [yz]<;>omega)|fail) only [↓yp,yA,ys0,ys1,seval,fitB,newC,endD,endR,yrg]
    refine W_drawR (pl := []) [7] [(3, 1)] (planK_of rfl) (by kernel_rfl) (by kernel_rfl) (by kernel_rfl) (by first|omega|(simp only [yz]<;>omega)) ?_
    simp (disch:=first|(simp only [yk,seval];done)|omega|(simp only [yz]<;>omega)|fail) only [↓yp,yA,ys0,ys1,seval,fitB,newC,endD,endR,yrg,g10,g12,hb1,w4,w5]
    refine ⟨f + 1, l - 1, by omega, (I.frx hk hc1 hx1 (by (with_reducible repeat first|refine Keep.put ?_ (by decide)|refine Keep.none ?_|assumption|exact Keep.refl _ _ _))).put hk hj hb1 n1 n2 _, ?_, ?_, ?_, by (first | omega | (simp only [yz] <;> omega)), get_put_same (by omega), by omega, by omega⟩
    ·simp (disch:=first|(simp only [yk,seval];done)|omega|(simp only [yz]<;>omega)|fail) only [yg,seval,g10]
    ·simp (disch:=first|(simp only [yk,seval];done)|omega|(simp only [yz]<;>omega)|fail) only [yg,seval,g11]
    ·simp (disch:=first|(simp only [yk,seval];done)|omega|(simp only [yz]<;>omega)|fail) only [yg,seval]
  ·have hB' := of_decide_eq_true hB
   simp (disch:=first|(simp only [yk,seval];done)|omega|(simp only [yz]<;>omega)|fail) only [↓yp,yA,ys0,ys1,seval,fitB,newC,endD,endR,yrg,g10,g11,g12,g0,hb,w1,w2,w3,hA,hB]
   refine W_drawR (pl := []) [7] [(3, 1)] (planK_of rfl) (by kernel_rfl) (by kernel_rfl) (by kernel_rfl) (by first|omega|(simp only [yz]<;>omega)) ?_
   simp (disch:=first|(simp only [yk,seval];done)|omega|(simp only [yz]<;>omega)|fail) only [↓yp,yA,ys0,ys1,seval,fitB,newC,endD,endR,yrg,g10,g12,hb,w4,w5]
   refine ⟨f + 1, l - 1, by omega, (I.frx hk I.chu (FrX.refl _ _) (by (with_reducible repeat first|refine Keep.put ?_ (by decide)|refine Keep.none ?_|assumption|exact Keep.refl _ _ _))).put hk hj hb n1 n2 _, ?_, ?_, ?_, by (first | omega | (simp only [yz] <;> omega)), get_put_same (by omega), by omega, by omega⟩
   ·simp (disch:=first|(simp only [yk,seval];done)|omega|(simp only [yz]<;>omega)|fail) only [yg,seval,g10]
   ·simp (disch:=first|(simp only [yk,seval];done)|omega|(simp only [yz]<;>omega)|fail) only [yg,seval,g11]
   ·simp (disch:=first|(simp only [yk,seval];done)|omega|(simp only [yz]<;>omega)|fail) only [yg,seval]
 clear hb g10 g11 g12 hjs I hl hf hc f l
 rintro e H' ⟨f, l, hl, I, g10, g11, g12, hjs, hb, hf, hc⟩
 have sz := I.sz
 have w1 : w64 (o + 1) = o + 1 := w64_of (by omega)
 simp (disch:=first|(simp only [yk,seval];done)|omega|(simp only [yz]<;>omega)|fail) only [↓yp,yA,ys0,ys1,seval,fitB,newC,endD,endR,yrg,g10,hb,w1]
 refine ⟨(s - (o + 1)).toNat, by omega, o + 1, f, l, rfl, hl, (I.frx hk I.chu (FrX.refl _ _) (by (with_reducible repeat first|refine Keep.put ?_ (by decide)|refine Keep.none ?_|assumption|exact Keep.refl _ _ _))).put hk hj hb n1 n2 _, ?_, ?_, ?_, by (first | omega | (simp only [yz] <;> omega)), get_put_same (by omega), by omega, by omega, by omega⟩
 ·simp (disch:=first|(simp only [yk,seval];done)|omega|(simp only [yz]<;>omega)|fail) only [yg,seval,g10]
 ·simp (disch:=first|(simp only [yk,seval];done)|omega|(simp only [yz]<;>omega)|fail) only [yg,seval,g11]
 ·simp (disch:=first|(simp only [yk,seval];done)|omega|(simp only [yz]<;>omega)|fail) only [yg,seval,g12]
set_option maxHeartbeats 2000000 in
theorem c33e {p : Pk} {r : Int} (h0 : Chu H k a bs cap) (hk : k < H.size) (hL : L ≤ k) (hi : i ≤ 8) (I : MP H H' k a bs cap M n i ps rs S1 S2 v1 v2 e) (g10 : gt 120 e 10 = .pointer (some ⟨j, 0, none⟩)) (g11 : gt 120 e 11 = .int .i64 r) (hb : H'.get j = .rw p.enc 87 false []) (hp : PkIn M p r) :
  W tabA Try.prog (N + 600) none (sub [true, true, true, false, true, false, false, true, true, false, false, true, true, true, true] (bodyOf Try.f33)) L ⟨120, e, H', []⟩ (endK 120 [] fun e' H'' => H.size + 1 < H''.size ∧ gt 120 e' 19 = .int .i64 (i : Nat) ∧ ∃ (S1' S2' : Nat → Prop) (v1' v2' : Value), ∀ e'', Keep 120 [0, 2, 6, 8, 9, 18] e' e'' → gt 120 e'' 19 = .int .i64 ((i + 1 : Nat) : Int) → MP H H'' k a bs cap M n (i + 1) (ps ++ [p]) (rs ++ [r]) S1' S2' v1' v2' e'') := by
 have sz := I.sz
 have g8 := I.g8
 have g9 := I.g9
 have b8 := I.b8
 have l1 := I.l1
 have l2 := I.l2
 simp only [Pk.enc] at hb
 simp only [Try.f33,bodyOf,sub_nil,sub_seq0,sub_seq1,sub_block,sub_loop,sub_cond0,sub_cond1]
 simp (disch:=first|(simp only [yk,seval];done)|omega|(simp only [yz]<;>omega)|fail) only [↓yp,yA,ys0,ys1,seval,fitB,newC,endD,endR,yrg,g8,g10,b8,hb,A_buildSlice st_brS_22_1]
 refine gw_append (i := i) (cs := pkE.fl ps) (news := p.enc) st_apS_22 (I.r1.fr (by repeat first|exact Fr.refl _|assumption|refine Fr.allocd ?_ _|refine Fr.put ?_ (by first|omega|(simp only [yz]<;>omega)) _)) (by first|omega|(simp only [yz]<;>omega)) (by rw [fl_length, l1]; rfl) (by unfold srcCells; simp (disch:=first|(simp only [yk,seval];done)|omega|(simp only [yz]<;>omega)|fail) only [yg,seval] <;> rfl) (by omega) (by omega) rfl (by omega) ?_
 intro a1 c1 H2 hs2 fs2 gw1
 simp only [size_alloc] at hs2 fs2
 have old2 : ∀ q, q < H'.size → ¬ S1 q → H2.get q = H'.get q := fun q h1 h2 => by rw [fs2 q (by omega) h2, get_alloc_lt h1]
 simp (disch:=first|(simp only [yk,seval];done)|omega|(simp only [yz]<;>omega)|fail) only [↓yp,yA,ys0,ys1,seval,fitB,newC,endD,endR,yrg,g9,g11,A_buildSlice st_brS_49_1]
 have r2' : Gw H2 (H.size + 1) S2 v2 i (intE.fl rs) 3 1 := I.r2.same (by omega) fun q hq => old2 q (I.r2.own q hq).2 fun h => I.dj q h hq
 refine gw_append (i := i) (cs := intE.fl rs) (news := [.int .i64 r]) st_apS_49 (r2'.fr (by repeat first|exact Fr.refl _|assumption|refine Fr.allocd ?_ _|refine Fr.put ?_ (by first|omega|(simp only [yz]<;>omega)) _)) (by first|omega|(simp only [yz]<;>omega)) (by rw [fl_length, l2]; rfl) (by unfold srcCells; simp (disch:=first|(simp only [yk,seval];done)|omega|(simp only [yz]<;>omega)|fail) only [yg,seval] <;> rfl) (by omega) (by omega) rfl (by omega) ?_
 intro a2 c2 H3 hs3 fs3 gw2
 simp only [size_alloc] at hs3 fs3
 have old3 : ∀ q, q < H2.size → ¬ S2 q → H3.get q = H2.get q := fun q h1 h2 => by rw [fs3 q (by omega) h2, get_alloc_lt h1]
 have lo : ∀ q, q ≤ H.size + 1 → H3.get q = H'.get q := fun q h1 => by
  rw [old3 q (by omega) (fun h => by have := (I.r2.own q h).1; omega), old2 q (by omega) (fun h => by have := (I.r1.own q h).1; omega)]
 have b83 : H3.get (H.size + 1) = .rw [v1, .slice none 0 0, .int .i64 0] 25 false [] := (lo _ (by omega)).trans b8
 simp (disch:=first|(simp only [yk,seval];done)|omega|(simp only [yz]<;>omega)|fail) only [↓yp,yA,ys0,ys1,seval,fitB,newC,endD,endR,yrg,g8,b83]
 have fx : FrX k H (H3.put (H.size + 1) (.rw [.slice a1 (i + 1) c1, .slice none 0 0, .int .i64 0] 25 false [])) := ⟨by (first | omega | (simp only [yz] <;> omega)), fun q h1 h2 => by rw [get_put_ne (by omega), lo q (by omega)]; exact I.fr.same q h1 h2⟩
 refine ⟨by (first | omega | (simp only [yz] <;> omega)), ?_, fun q => S1 q ∨ q = H'.size + 1, fun q => S2 q ∨ q = H2.size + 1, .slice a1 (i + 1) c1, .slice a2 (i + 1) c2, fun e'' hk2 h19 => ⟨h19, (hk2 18 (by decide)).trans ?_, (hk2 9 (by decide)).trans ?_, (hk2 8 (by decide)).trans ?_, (hk2 6 (by decide)).trans ?_, (hk2 2 (by decide)).trans ?_, (hk2 0 (by decide)).trans ?_, ?_, fx, by (first | omega | (simp only [yz] <;> omega)), get_put_same (by omega), ?_, ?_, ?_, ?_, ?_, ?_, ?_⟩⟩
 ·simp (disch:=first|(simp only [yk,seval];done)|omega|(simp only [yz]<;>omega)|fail) only [yg,seval,I.g19]
 ·simp (disch:=first|(simp only [yk,seval];done)|omega|(simp only [yz]<;>omega)|fail) only [yg,seval,I.g18]
 ·simp (disch:=first|(simp only [yk,seval];done)|omega|(simp only [yz]<;>omega)|fail) only [yg,seval]
 ·simp (disch:=first|(simp only [yk,seval];done)|omega|(simp only [yz]<;>omega)|fail) only [yg,seval,g8]
 ·simp (disch:=first|(simp only [yk,seval];done)|omega|(simp only [yz]<;>omega)|fail) only [yg,seval,I.g6]
 ·simp (disch:=first|(simp only [yk,seval];done)|omega|(simp only [yz]<;>omega)|fail) only [yg,seval,I.g2]
 ·simp (disch:=first|(simp only [yk,seval];done)|omega|(simp only [yz]<;>omega)|fail) only [yg,seval,I.g0]
 ·refine h0.again fx ?_
  rw [get_put_ne (by omega), lo _ (by omega)]
  exact I.chu.blk
 ·rw [get_put_ne (by omega), lo _ (by omega)]; exact I.b6
 ·rw [fl_app]
  refine Gw.put ?_ (fun h => by
   rcases (h : S1 _ ∨ _ = _) with h | h
   ·have := (I.r1.own _ h).1; omega
   ·omega) _
  have : pkE.fl [p] = p.enc := by show p.enc ++ [] = _; rw [List.append_nil]
  rw [this]
  have g3 : Gw H2 (H.size + 1) (fun q => S1 q ∨ q = H'.size + 1) (.slice a1 (i + 1) c1) (i + 1) (pkE.fl ps ++ p.enc) 87 4 := by
   simp only [size_alloc] at gw1
   exact gw1
  exact g3.same (by omega) fun q hq => old3 q (g3.own q hq).2 (by
   rintro h
   rcases hq with hq | rfl
   ·exact I.dj q hq h
   ·have := (I.r2.own _ h).2; omega)
 ·rw [fl_app]
  refine Gw.put ?_ (fun h => by
   rcases (h : S2 _ ∨ _ = _) with h | h
   ·have := (I.r2.own _ h).1; omega
   ·omega) _
  have : intE.fl [r] = [.int .i64 r] := rfl
  rw [this]
  simp only [size_alloc] at gw2
  exact gw2
 ·rintro q (hq | rfl) (hq' | hq')
  ·exact I.dj q hq hq'
  ·have := (I.r1.own _ hq).2; omega
  ·have := (I.r2.own _ hq').2; omega
  ·omega
 ·rw [List.length_append, l1]; rfl
 ·rw [List.length_append, l2]; rfl
 ·intro q x y hx hy
  by_cases hq : q < i
  ·rw [List.getElem?_append_left (by omega)] at hx hy
   exact I.ok q x y hx hy
  ·have h1 := (List.getElem?_eq_some_iff.1 hx).1
   rw [List.length_append, l1] at h1
   simp only [List.length_cons,List.length_nil] at h1
   have : q = i := by omega
   subst this
   rw [List.getElem?_append_right (by omega), l1, Nat.sub_self] at hx
   rw [List.getElem?_append_right (by omega), l2, Nat.sub_self] at hy
   simp only [List.getElem?_cons_zero,Option.some.injEq] at hx hy
   subst hx hy
   exact hp
end
end Go.Am.K
namespace Go.Am.K
open Go.Proofs
variable {T : Tab} {P : Program} {N L : Nat} {H H' H'' : AHeap} {Q : Bool → Value → AHeap → Prop}
theorem ordB_snoc {x : Gd} : ∀ {gs : List Gd}, ordB gs = true → (∀ g ∈ gs, g.fo < x.fo ∧ x.pr < g.pr) → ordB (gs ++ [x]) = true
 | [], _, _ => rfl
 | [g], _, h => by
  have := h g (by simp)
  simp [ordB, this]
 | g :: g' :: l, h, hx => by
  unfold ordB at h
  rw [Bool.and_eq_true] at h
  show (((decide (g.fo < g'.fo) && decide (g'.pr < g.pr))) && ordB ((g' :: l) ++ [x])) = true
  rw [Bool.and_eq_true]
  exact ⟨h.1, ordB_snoc h.2 fun y hy => hx y (List.mem_cons_of_mem _ hy)⟩
structure GI (gs : List Gd) (fo pr : Int) (i : Nat) : Prop where
 len : gs.length = i
 ord : ordB gs = true
 all : ∀ g ∈ gs, 0 ≤ g.fo ∧ g.fo < fo ∧ pr < g.pr ∧ g.pr ≤ 60
 fo : 0 ≤ fo ∧ fo ≤ 19 + 20 * i
 pr : 40 - 13 * i ≤ pr ∧ pr ≤ 60
 fst : ∀ g, gs[0]? = some g → 40 ≤ g.pr
structure MG (H H' : AHeap) (k : Nat) (a : Option Addr) (bs : List Int) (cap : Nat) (M m : Int) (i np : Nat) (ps : List Pk) (rs : List Int) (gs : List Gd) (S1 S2 S3 : Nat → Prop) (v1 v2 v3 : Value) (e : VT) : Prop where
 g96 : gt 120 e 96 = .int .i64 (i : Nat)
 g95 : gt 120 e 95 = .int .i64 m
 g9 : gt 120 e 9 = v2
 g8 : gt 120 e 8 = .pointer (some ⟨H.size + 1, 0, none⟩)
 g6 : gt 120 e 6 = .pointer (some ⟨H.size, 0, none⟩)
 g0 : gt 120 e 0 = .pointer (some ⟨k, 0, none⟩)
 chu : Chu H' k a bs cap
 fr : FrX k H H'
 sz : H.size + 1 < H'.size
 b8 : H'.get (H.size + 1) = .rw [v1, v3, .int .i64 0] 25 false []
 b6 : H'.get H.size = .rw [.slice none 0 0, .slice none 0 0, .int .i64 0] 25 false []
 r1 : Gw H' (H.size + 1) S1 v1 np (pkE.fl ps) 87 4
 r2 : Gw H' (H.size + 1) S2 v2 np (intE.fl rs) 3 1
 r3 : Gw H' (H.size + 1) S3 v3 i (gdE.fl gs) 77 2
 d13 : ∀ j, S1 j → ¬ S3 j
 d23 : ∀ j, S2 j → ¬ S3 j
 l1 : ps.length = np
 l2 : rs.length = np
 ok : ∀ (j : Nat) (p : Pk) (r : Int), ps[j]? = some p → rs[j]? = some r → PkIn M p r
section
variable {k cap i j np : Nat} {a : Option Addr} {bs : List Int} {M n m fo pr : Int} {ps : List Pk} {rs : List Int} {gs : List Gd} {S1 S2 S3 : Nat → Prop} {v1 v2 v3 : Value} {e e' : VT}
theorem MG.next (I : MG H H' k a bs cap M m i np ps rs gs S1 S2 S3 v1 v2 v3 e) (hc : Chu H'' k a bs cap) (hk : k < H.size) (f : FrX k H' H'') (h : Keep 120 [0, 6, 8, 9, 95, 96] e e') : MG H H'' k a bs cap M m i np ps rs gs S1 S2 S3 v1 v2 v3 e' where
 g96 := (h 96 (by decide)).trans I.g96
 g95 := (h 95 (by decide)).trans I.g95
 g9 := (h 9 (by decide)).trans I.g9
 g8 := (h 8 (by decide)).trans I.g8
 g6 := (h 6 (by decide)).trans I.g6
 g0 := (h 0 (by decide)).trans I.g0
 chu := hc
 fr := I.fr.trans f
 sz := Nat.lt_of_lt_of_le I.sz f.size
 b8 := (f.same _ I.sz (by omega)).trans I.b8
 b6 := (f.same _ (by have := I.sz; omega) (by omega)).trans I.b6
 r1 := I.r1.frx (fun h => by have := (I.r1.own _ h).1; omega) f
 r2 := I.r2.frx (fun h => by have := (I.r2.own _ h).1; omega) f
 r3 := I.r3.frx (fun h => by have := (I.r3.own _ h).1; omega) f
 d13 := I.d13
 d23 := I.d23
 l1 := I.l1
 l2 := I.l2
 ok := I.ok
set_option maxHeartbeats 2000000 in
theorem c33f (h0 : Chu H k a bs cap) (hk : k < H.size) (hL : L ≤ k) (hi : i ≤ 8) (I : MG H H' k a bs cap M m i np ps rs gs S1 S2 S3 v1 v2 v3 e) (G : GI gs fo pr i) (g14 : gt 120 e 14 = .int .i64 fo) (g15 : gt 120 e 15 = .int .i64 pr) :
  W tabA Try.prog (N + 600) none (sub [true, true, true, true, true, false, true, false, false, true, true, false, false, false] (bodyOf Try.f33)) L ⟨120, e, H', []⟩ (endK 120 [] fun e' H'' => H.size + 1 < H''.size ∧ gt 120 e' 96 = .int .i64 (i : Nat) ∧ gt 120 e' 14 = .int .i64 fo ∧ gt 120 e' 15 = .int .i64 pr ∧ gt 120 e' 0 = .pointer (some ⟨k, 0, none⟩) ∧ Chu H'' k a bs cap ∧ ∃ (S3' : Nat → Prop) (v3' : Value), ∀ e'' G, Chu G k a bs cap → FrX k H'' G → Keep 120 [0, 6, 8, 9, 95] e' e'' → gt 120 e'' 96 = .int .i64 ((i + 1 : Nat) : Int) → MG H G k a bs cap M m (i + 1) np ps rs (gs ++ [⟨fo, pr⟩]) S1 S2 S3' v1 v2 v3' e'') := by
 have sz := I.sz
 have g8 := I.g8
 have b8 := I.b8
 have l3 := G.len
 simp only [Try.f33,bodyOf,sub_nil,sub_seq0,sub_seq1,sub_block,sub_loop,sub_cond0,sub_cond1]
 simp (disch:=first|(simp only [yk,seval];done)|omega|(simp only [yz]<;>omega)|fail) only [↓yp,yA,ys0,ys1,seval,fitB,newC,endD,endR,yrg,g8,b8,g14,g15,A_build st_bdS_77,A_buildSlice st_brS_23_1]
 refine gw_append (i := i) (cs := gdE.fl gs) (news := Gd.enc ⟨fo, pr⟩) st_apS_23 (I.r3.fr (by repeat first|exact Fr.refl _|assumption|refine Fr.allocd ?_ _|refine Fr.put ?_ (by first|omega|(simp only [yz]<;>omega)) _)) (by first|omega|(simp only [yz]<;>omega)) (by rw [fl_length, l3]; rfl) (by unfold srcCells; simp (disch:=first|(simp only [yk,seval];done)|omega|(simp only [yz]<;>omega)|fail) only [yg,seval] <;> rfl) (by omega) (by omega) rfl (by omega) ?_
 intro a1 c1 H2 hs2 fs2 gw1
 simp only [size_alloc] at hs2 fs2
 have old2 : ∀ q, q < H'.size → ¬ S3 q → H2.get q = H'.get q := fun q h1 h2 => by rw [fs2 q (by omega) h2, get_alloc_lt h1]
 have lo : ∀ q, q ≤ H.size + 1 → H2.get q = H'.get q := fun q h1 => old2 q (by omega) (fun h => by have := (I.r3.own q h).1; omega)
 have b82 : H2.get (H.size + 1) = .rw [v1, v3, .int .i64 0] 25 false [] := (lo _ (by omega)).trans b8
 simp (disch:=first|(simp only [yk,seval];done)|omega|(simp only [yz]<;>omega)|fail) only [↓yp,yA,ys0,ys1,seval,fitB,newC,endD,endR,yrg,g8,b82]
 have fx : FrX k H (H2.put (H.size + 1) (.rw [v1, .slice a1 (i + 1) c1, .int .i64 0] 25 false [])) := ⟨by (first | omega | (simp only [yz] <;> omega)), fun q h1 h2 => by rw [get_put_ne (by omega), lo q (by omega)]; exact I.fr.same q h1 h2⟩
 have cu : Chu (H2.put (H.size + 1) (.rw [v1, .slice a1 (i + 1) c1, .int .i64 0] 25 false [])) k a bs cap := by
  refine h0.again fx ?_
  rw [get_put_ne (by omega), lo _ (by omega)]
  exact I.chu.blk
 have J : ∀ e'', Keep 120 [0, 6, 8, 9, 95] e e'' → gt 120 e'' 96 = .int .i64 ((i + 1 : Nat) : Int) → MG H (H2.put (H.size + 1) (.rw [v1, .slice a1 (i + 1) c1, .int .i64 0] 25 false [])) k a bs cap M m (i + 1) np ps rs (gs ++ [⟨fo, pr⟩]) S1 S2 (fun q => S3 q ∨ q = H'.size + 1) v1 v2 (.slice a1 (i + 1) c1) e'' := fun e'' hk2 h19 => by
  refine ⟨h19, (hk2 95 (by decide)).trans I.g95, (hk2 9 (by decide)).trans I.g9, (hk2 8 (by decide)).trans g8, (hk2 6 (by decide)).trans I.g6, (hk2 0 (by decide)).trans I.g0, cu, fx, by (first | omega | (simp only [yz] <;> omega)), get_put_same (by omega), ?_, ?_, ?_, ?_, ?_, ?_, I.l1, I.l2, I.ok⟩
  ·rw [get_put_ne (by omega), lo _ (by omega)]; exact I.b6
  ·refine Gw.put ?_ (fun h => by have := (I.r1.own _ h).1; omega) _
   exact I.r1.same (by omega) fun q hq => old2 q (I.r1.own q hq).2 (I.d13 q hq)
  ·refine Gw.put ?_ (fun h => by have := (I.r2.own _ h).1; omega) _
   exact I.r2.same (by omega) fun q hq => old2 q (I.r2.own q hq).2 (I.d23 q hq)
  ·rw [fl_app]
   refine Gw.put ?_ (fun h => by
    rcases (h : S3 _ ∨ _ = _) with h | h
    ·have := (I.r3.own _ h).1; omega
    ·omega) _
   have : gdE.fl [⟨fo, pr⟩] = Gd.enc ⟨fo, pr⟩ := by show Gd.enc ⟨fo, pr⟩ ++ [] = _; rw [List.append_nil]
   rw [this]
   simp only [size_alloc] at gw1
   exact gw1
  ·rintro q hq (hq' | rfl)
   ·exact I.d13 q hq hq'
   ·have := (I.r1.own _ hq).2; omega
  ·rintro q hq (hq' | rfl)
   ·exact I.d23 q hq hq'
   ·have := (I.r2.own _ hq).2; omega
 refine ⟨by (first | omega | (simp only [yz] <;> omega)), ?_, ?_, ?_, ?_, cu, fun q => S3 q ∨ q = H'.size + 1, .slice a1 (i + 1) c1, fun e'' G hcG fG hk2 h19 => ?_⟩
 ·simp (disch:=first|(simp only [yk,seval];done)|omega|(simp only [yz]<;>omega)|fail) only [yg,seval,I.g96]
 ·simp (disch:=first|(simp only [yk,seval];done)|omega|(simp only [yz]<;>omega)|fail) only [yg,seval,g14]
 ·simp (disch:=first|(simp only [yk,seval];done)|omega|(simp only [yz]<;>omega)|fail) only [yg,seval,g15]
 ·simp (disch:=first|(simp only [yk,seval];done)|omega|(simp only [yz]<;>omega)|fail) only [yg,seval,I.g0]
 ·exact (J e'' (Keep.trans (by (with_reducible repeat first|refine Keep.put ?_ (by decide)|refine Keep.none ?_|assumption|exact Keep.refl _ _ _)) hk2) h19).next hcG hk fG (Keep.refl _ _ _)
set_option maxHeartbeats 2000000 in
theorem c33g (hL : L ≤ k) (hk : k < H'.size) (hc : Chu H' k a bs cap) (g0 : gt 120 e 0 = .pointer (some ⟨k, 0, none⟩)) (hf : 0 ≤ fo ∧ fo ≤ 100) (hp : 0 ≤ pr ∧ pr ≤ 100) (g14 : gt 120 e 14 = .int .i64 fo) (g15 : gt 120 e 15 = .int .i64 pr) :
  W tabA Try.prog (N + 600) none (sub [true, true, true, true, true, false, true, false, false, true, true, false, false, true] (bodyOf Try.f33)) L ⟨120, e, H', []⟩ (endK 120 [] fun e' H'' => Keep 120 [0, 6, 8, 9, 95, 96] e e' ∧ Chu H'' k a bs cap ∧ FrX k H' H'' ∧ ∃ x y : Int, gt 120 e' 14 = .int .i64 (fo + x) ∧ gt 120 e' 15 = .int .i64 (pr - y) ∧ (5 ≤ x ∧ x ≤ 20) ∧ (5 ≤ y ∧ y ≤ 13)) := by
 simp only [Try.f33,bodyOf,sub_nil,sub_seq0,sub_seq1,sub_block,sub_loop,sub_cond0,sub_cond1]
 simp (disch:=first|(simp only [yk,seval];done)|omega|(simp only [yz]<;>omega)|fail) only [↓yp,yA,ys0,ys1,seval,fitB,newC,endD,endR,yrg,g0,g14]
 refine c51 hc hL (by omega) (by omega) ?_
 rintro f1 x H1 - p1 p2 hc1 hx1 hs1
 have w1 : w64 (fo + x) = fo + x := w64_of (by omega)
 simp (disch:=first|(simp only [yk,seval];done)|omega|(simp only [yz]<;>omega)|fail) only [↓yp,yA,ys0,ys1,seval,fitB,newC,endD,endR,yrg,g0,g15,w1]
 refine c51 hc1 hL (by omega) (by omega) ?_
 rintro f2 y H2 - p3 p4 hc2 hx2 hs2
 have w2 : w64 (pr - y) = pr - y := w64_of (by omega)
 simp (disch:=first|(simp only [yk,seval];done)|omega|(simp only [yz]<;>omega)|fail) only [↓yp,yA,ys0,ys1,seval,fitB,newC,endD,endR,yrg,w2]
 refine ⟨by (with_reducible repeat first|refine Keep.put ?_ (by decide)|refine Keep.none ?_|assumption|exact Keep.refl _ _ _), hc2, hx1.trans hx2, x, y, ?_, ?_, ⟨p1, p2⟩, p3, p4⟩
 ·simp (disch:=first|(simp only [yk,seval];done)|omega|(simp only [yz]<;>omega)|fail) only [yg,seval]
 ·simp (disch:=first|(simp only [yk,seval];done)|omega|(simp only [yz]<;>omega)|fail) only [yg,seval]
end
end Go.Am.K
