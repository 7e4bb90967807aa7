import Derived.Test.YtbofjfjopeaefaaT45
import Derived.Test.YtbofjfjopeaefaaT43
import Derived.Test.YtbofjfjopeaefaaT38
import Derived.Test.YtbofjfjopeaefaaT40
import Derived.Test.YtbofjfjopeaefaaT49
set_option linter.unusedSimpArgs false
set_option linter.unusedVariables false
namespace Go.Am.K
open Go.Proofs
variable {T : Tab} {P : Program} {N L : Nat} {H H' H'' : AHeap} {Q : Bool → Value → AHeap → Prop}
section
variable {a a' : Option Addr} {cap cap' : Nat} {ps : List Pk} {gs : List Gd}
theorem c45M (hs : Rw pkE H a ps) (hg : Rw gdE H a' gs) (hl : ps.length ≤ 4) (hl1 : 1 ≤ ps.length) (hpk : ∀ p ∈ ps, p.Ok) (hgl : gs.length ≤ 4) (hgk : ∀ g ∈ gs, g.Ok) (k : Nat) (hk : k ≤ 3) (hok : chkS ps gs (k : Int) = 0) (hL : L ≤ H.size) {M : Nat} (hM : 18200 ≤ M)
  (hq : ∀ f w n H', Fr H H' → OptR (brg ps gs) (stk ps) k n → Q f (.tuple ⟨[w, .int .i64 n, .int .i64 0]⟩) H') :
  resK (acall tabA (aexec tabA Try.prog M) 45 [.agg ⟨[.slice a ps.length cap, .slice a' gs.length cap', .int .i64 (k : Int)]⟩] H) L Q := by
 obtain ⟨N, rfl⟩ : ∃ N, M = N + 18200 := ⟨M - 18200, by omega⟩
 refine resK_lowQ (c45 hs hg hl hl1 hpk hgl hgk k hk hok) hL ?_
 rintro b _ H2 ⟨-, Ls, w, n, rfl, h1, -, -, -, h2⟩
 exact hq _ _ _ _ h1 h2
end
section
variable {i8 i12 i16 b1 c1 b2 c2 b4 c4 b9 c9 b10 c10 b13 c13 d1 e1 d2 e2 : Nat} {ps qs : List Pk} {gs : List Gd} {lots t : Int} {l ms : List Int} {σ : List Nat} {e : VT}
end
end Go.Am.K
namespace Go.Am.K
open Go.Proofs
variable {T : Tab} {P : Program} {N L : Nat} {H H' H'' : AHeap} {Q : Bool → Value → AHeap → Prop}
section
variable {kq cq i5 b1 c1 b2 c2 b3 c3 b4 c4 i10 : Nat} {aq : Option Addr} {bq rs l : List Int} {ps : List Pk} {gs : List Gd} {lots lo hi sv : Int} {e e' : VT}
end
end Go.Am.K
namespace Go.Am.K
open Go.Proofs
variable {T : Tab} {P : Program} {N L : Nat} {H H' H'' : AHeap} {Q : Bool → Value → AHeap → Prop}
structure LP (H' : AHeap) (i8 i11 i17 i19 b1 c1 b2 c2 b3 c3 b4 c4 i k : Nat) (ps : List Pk) (gs : List Gd) (rs l : List Int) (p : Pk) (r y lo hi sa sb su : Int) (e : VT) : Prop where
 lt : LtR H' (some ⟨b1, 0, none⟩) (some ⟨b2, 0, none⟩) (some ⟨b4, 0, none⟩) ps gs (k : Int) l
 rr : Rw intE H' (some ⟨b3, 0, none⟩) rs
 gn : gs ≠ []
 hp : ps[i]? = some p
 hr : rs[i]? = some r
 pin : PkIn 3 p r
 hy : 0 ≤ y ∧ y ≤ p.s - p.o
 py : PyR (Bv ps gs i p y k) y lo hi
 spa : isum (fo true ps l) = sa
 spb : isum (fo false ps l) = sb
 sur : sureV ps gs l = su
 zs : i8 < H'.size ∧ i11 < H'.size ∧ i17 < H'.size ∧ i19 < H'.size
 b8 : H'.get i8 = .rw [.slice (some ⟨b1, 0, none⟩) ps.length c1, .slice (some ⟨b2, 0, none⟩) gs.length c2, .int .i64 (k : Int)] 25 false []
 b11 : H'.get i11 = .rw [.int .i64 p.s, .int .i64 p.w, .int .i64 p.o, .int .i64 p.f] 87 false []
 b17 : H'.get i17 = .rw [.int .i64 lo, .int .i64 hi] 38 false []
 b19 : H'.get i19 = .rw [.int .i64 sa, .int .i64 sb] 38 false []
 g8 : gt 243 e 8 = .pointer (some ⟨i8, 0, none⟩)
 g9 : gt 243 e 9 = .slice (some ⟨b3, 0, none⟩) rs.length c3
 g10 : gt 243 e 10 = .int .i64 (i : Nat)
 g11 : gt 243 e 11 = .pointer (some ⟨i11, 0, none⟩)
 g12 : gt 243 e 12 = .int .i64 y
 g13 : gt 243 e 13 = .slice (some ⟨b4, 0, none⟩) l.length c4
 g17 : gt 243 e 17 = .pointer (some ⟨i17, 0, none⟩)
 g19 : gt 243 e 19 = .pointer (some ⟨i19, 0, none⟩)
 g21 : gt 243 e 21 = .int .i64 su
section
variable {i8 i11 i17 i19 b1 c1 b2 c2 b3 c3 b4 c4 i k : Nat} {ps : List Pk} {gs : List Gd} {rs l : List Int} {p : Pk} {r y lo hi sa sb su : Int} {e e' : VT}
theorem LP.next (I : LP H i8 i11 i17 i19 b1 c1 b2 c2 b3 c3 b4 c4 i k ps gs rs l p r y lo hi sa sb su e) (f : Fr H H') (h : Keep 243 [8, 9, 10, 11, 12, 13, 17, 19, 21] e e') : LP H' i8 i11 i17 i19 b1 c1 b2 c2 b3 c3 b4 c4 i k ps gs rs l p r y lo hi sa sb su e' where
 lt := I.lt.fr f
 rr := I.rr.fr f
 gn := I.gn
 hp := I.hp
 hr := I.hr
 pin := I.pin
 hy := I.hy
 py := I.py
 spa := I.spa
 spb := I.spb
 sur := I.sur
 zs := by have := I.zs; have := f.size; omega
 b8 := (f.same _ I.zs.1).trans I.b8
 b11 := (f.same _ I.zs.2.1).trans I.b11
 b17 := (f.same _ I.zs.2.2.1).trans I.b17
 b19 := (f.same _ I.zs.2.2.2).trans I.b19
 g8 := (h 8 (by decide)).trans I.g8
 g9 := (h 9 (by decide)).trans I.g9
 g10 := (h 10 (by decide)).trans I.g10
 g11 := (h 11 (by decide)).trans I.g11
 g12 := (h 12 (by decide)).trans I.g12
 g13 := (h 13 (by decide)).trans I.g13
 g17 := (h 17 (by decide)).trans I.g17
 g19 := (h 19 (by decide)).trans I.g19
 g21 := (h 21 (by decide)).trans I.g21
set_option maxHeartbeats 8000000 in
set_option maxRecDepth 10000 in
theorem c7E (hL : L ≤ H.size) (I : LP H i8 i11 i17 i19 b1 c1 b2 c2 b3 c3 b4 c4 i k ps gs rs l p r y lo hi sa sb su e) (g23 : gt 243 e 23 = .int .i64 lo) (g24 : gt 243 e 24 = .int .i64 hi) (g25 : gt 243 e 25 = .bool true) :
  W tabA Try.prog (N + 19000) none (sub [true, true, true, true, true, true, true, true, true, true, true, true, true, true] (bodyOf Try.f7)) L ⟨243, e, H, []⟩ (retK tabA L [.tmp 6] fun u _ => u = .bool true) := by
 obtain ⟨lt, rr, gn, hp, hr, pin, hy, py, -, -, -, zs, b8, b11, b17, b19, g8, g9, g10, g11, g12, g13, g17, g19, g21⟩ := I
 have hst := lt.st.st
 have hok := lt.st.pk p (List.mem_of_getElem? hp)
 simp only [Try.f7,bodyOf,sub_nil,sub_seq0,sub_seq1,sub_block,sub_loop,sub_cond0,sub_cond1]
 simp (disch:=first|(simp only [yk,seval];done)|omega|(simp only [yz]<;>omega)|fail) only [↓yp,yq0,yq1,yq2,yq3,yq4,yl,ys0,ys1,seval,fitB,newC,endD,endR,yrg]
 refine W_draw [] rfl (by kernel_rfl) (by kernel_rfl) (by first|omega|(simp only [yz]<;>omega)) ?_
 have h50 := fun (N : Nat) (H : AHeap) => c50 (N := N) (H := H) (x := lo) (y := hi)
 simp (disch:=first|(simp only [yk,seval];done)|omega|(simp only [yz]<;>omega)|fail) only [↓yp,yq0,yq1,yq2,yq3,yq4,yl,ys0,ys1,seval,fitB,newC,endD,endR,yrg,g17,g23,g24,g25,b17,h50,neq38]
 refine W_draw [] rfl (by kernel_rfl) (by kernel_rfl) (by first|omega|(simp only [yz]<;>omega)) ?_
 obtain ⟨b', o', cx, ex, hbx, hcx, hqx⟩ := rr.at_ hr
 cases ex
 have hx1 : cx[i]? = some (.int .i64 r) := by
  have := cell_of (k := 0 + i * 1) hqx
  rwa [Nat.mul_one, Nat.zero_add] at this
 have p1 := hok.s
 have p2 := hok.w
 have p3 := hok.o
 have p4 := hok.f
 have q1 := pin.re
 have q2 := pin.c
 have w1 : w64 (r - p.f) = r - p.f := w64_of (by omega)
 have w2 : w64 (p.s - p.o) = p.s - p.o := w64_of (by omega)
 have w3 : w64 (p.s - p.o - y) = p.s - p.o - y := w64_of (by omega)
 have w4 : w64 (r - p.f - (p.s - p.o - y)) = r - p.f - (p.s - p.o - y) := w64_of (by omega)
 obtain ⟨z, hz⟩ : ∃ z, (if r - p.f - (p.s - p.o - y) > 0 then r - p.f - (p.s - p.o - y) else 0) = z := ⟨_, rfl⟩
 have hri : i < rs.length := (List.getElem?_eq_some_iff.1 hr).1
 simp (disch:=first|(simp only [yk,seval];done)|omega|(simp only [yz]<;>omega)|fail) only [↓yp,yq0,yq1,yq2,yq3,yq4,yl,ys0,ys1,seval,fitB,newC,endD,endR,yrg,g8,g9,g10,g11,g12,b8,b11,A_indexSlice st_esS_49,hcx,hx1,w1,w2,w3,w4,A_max,mm_max,hz,Nat.mul_one,Nat.zero_add]
 obtain ⟨hzy, hcl⟩ := opn_real (y := y) (r := r) (z := z) hok q1.1 q1.2 (by omega) hy (by rw [← hz]; split <;> omega)
 refine c20 lt.st.hs lt.st.hg (fun e => absurd e gn) (by have := hst.l4; omega) (by have := hst.g4; omega) (askP_of lt.st.ok (List.getElem?_eq_some_iff.1 hp).1) hp hok (wi_of hy) (wi_of hzy) hcl hL (by omega) ?_
 intro k1 x1 a2 x2 H2 fr2 ob og
 have s2 := fr2.size
 simp (disch:=first|(simp only [yk,seval];done)|omega|(simp only [yz]<;>omega)|fail) only [↓yp,yq0,yq1,yq2,yq3,yq4,yl,ys0,ys1,seval,fitB,newC,endD,endR,yrg,awake_known]
end
end Go.Am.K
