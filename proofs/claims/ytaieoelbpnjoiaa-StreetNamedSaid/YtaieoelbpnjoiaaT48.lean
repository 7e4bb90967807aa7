import Derived.Test.YtaieoelbpnjoiaaT47
import Derived.Test.YtaieoelbpnjoiaaT46
set_option linter.unusedSimpArgs false
set_option linter.unusedVariables false
namespace Go.Am
open Go.Proofs
variable {T : Tab} {P : Program} {N L : Nat} {H : AHeap} {Q : Bool → Value → AHeap → Prop}
def visF (kr kj kv : Nat) : Value := .func (.func 105) ⟨[]⟩ ⟨[.pointer (some ⟨kr, 0, none⟩), .pointer (some ⟨kj, 0, none⟩), .pointer (some ⟨kv, 0, none⟩)]⟩
structure VH (H₀ : AHeap) (l : List Str) (C w ld : Int) (a : Option Addr) (cap kr kj kv : Nat) (R : List Bool) (H : AHeap) : Prop where
 f0 : Fr H₀ H
 bj : H.get kj = .rw [.int .i64 C, .slice a l.length cap, .int .i64 w, .int .i64 ld, .int .i64 (-1)] 124 false []
 bf : H.get kv = .rw [visF kr kj kv] 152 false []
 br : H.get kr = .rw (bv R) 151 false []
 lj : kj < H.size
 lv : kv < H.size
 lr : kr < H.size
 jr : kj ≠ kr
 vr : kv ≠ kr
 r0 : H₀.size ≤ kr
 len : R.length = 8
section
variable {H₀ H' H₁ : AHeap} {l : List Str} {C w ld : Int} {a : Option Addr} {cap kr kj kv : Nat} {R R' : List Bool}
theorem VH.fr (V : VH H₀ l C w ld a cap kr kj kv R H) (f : Fr H H') : VH H₀ l C w ld a cap kr kj kv R H' :=
 ⟨V.f0.trans f, (f.same _ V.lj).trans V.bj, (f.same _ V.lv).trans V.bf, (f.same _ V.lr).trans V.br, Nat.lt_of_lt_of_le V.lj f.size, Nat.lt_of_lt_of_le V.lv f.size, Nat.lt_of_lt_of_le V.lr f.size, V.jr, V.vr, V.r0, V.len⟩
theorem VH.frx (V : VH H₀ l C w ld a cap kr kj kv R H) (f : FrX kr H H') (hb : H'.get kr = .rw (bv R') 151 false []) (hl : R'.length = 8) : VH H₀ l C w ld a cap kr kj kv R' H' :=
 ⟨f.above V.f0 V.r0, (f.same _ V.lj V.jr).trans V.bj, (f.same _ V.lv V.vr).trans V.bf, hb, Nat.lt_of_lt_of_le V.lj f.size, Nat.lt_of_lt_of_le V.lv f.size, Nat.lt_of_lt_of_le V.lr f.size, V.jr, V.vr, V.r0, hl⟩
theorem VH.put (V : VH H₀ l C w ld a cap kr kj kv R H) {k : Nat} (hk : H₁.size ≤ k) (h0 : Fr H₀ H₁) (hj : kj < H₁.size) (hv : kv < H₁.size) (hr : kr < H₁.size) (blk : ABlk) : VH H₀ l C w ld a cap kr kj kv R (H.put k blk) :=
 ⟨Fr.put V.f0 (by have := h0.size; omega) _, by rw [zdd (by omega)]; exact V.bj, by rw [zdd (by omega)]; exact V.bf, by rw [zdd (by omega)]; exact V.br, by rw [zdf]; exact V.lj, by rw [zdf]; exact V.lv, by rw [zdf]; exact V.lr, V.jr, V.vr, V.r0, V.len⟩
end
end Go.Am
namespace Go.Am
open Go.Proofs
variable {T : Tab} {P : Program} {N L : Nat} {H : AHeap} {Q : Bool → Value → AHeap → Prop}
section
variable {a : Option Addr} {cap : Nat} {l : List Str} {C w ld : Int}
end
end Go.Am
namespace Go.Am
open Go.Proofs
variable {T : Tab} {P : Program} {N L : Nat} {H : AHeap} {Q : Bool → Value → AHeap → Prop}
theorem Il.c {a : Option Addr} {t : List Int} (hs : Il H a t) (hne : t ≠ []) : ∃ b o c, a = some ⟨b, o, none⟩ ∧ cellsOf (H.get b) = some c ∧ ∀ i n, t[i]? = some n → c[o + i]? = some (.int .i64 n) := by
 obtain ⟨b, o, c, h1, -, h3, h4⟩ := hs.get hne
 exact ⟨b, o, c, h1, h3, h4⟩
end Go.Am
namespace Go.Am
open Go.Proofs
variable {T : Tab} {P : Program} {N L : Nat} {H : AHeap} {Q : Bool → Value → AHeap → Prop}
section
variable {a ac : Option Addr} {cap kc : Nat} {l : List Str} {C w ld : Int} {t : List Int}
end
end Go.Am
namespace Go.Am
open Go.Proofs
variable {T : Tab} {P : Program} {N L : Nat} {H : AHeap} {Q : Bool → Value → AHeap → Prop}
structure RowT (H : AHeap) (v : Value) (ls : List (Int × Bool)) (base top : Nat) : Prop where
 nil : ls = [] → v = .slice none 0 0
 cons : ls ≠ [] → ∃ b al, v = .slice (some ⟨b, 0, none⟩) ls.length (OPEN + 2) ∧ base ≤ b ∧ b < top ∧ (∀ j ∈ al, base ≤ j ∧ j < top) ∧ H.get b = .rw (lgs ls) 28 true al
section
variable {base top : Nat} {H' H₁ : AHeap} {v : Value} {ls : List (Int × Bool)}
theorem RowT.fr (R : RowT H v ls base top) (ht : top ≤ H.size) (f : ∀ k, base ≤ k → k < top → H'.get k = H.get k) : RowT H' v ls base top := ⟨R.nil, fun h => by
 obtain ⟨b, al, h1, h2, h3, h4, h5⟩ := R.cons h
 exact ⟨b, al, h1, h2, h3, h4, by rw [f _ h2 h3]; exact h5⟩⟩
theorem RowT.up {top' : Nat} (R : RowT H v ls base top) (h : top ≤ top') : RowT H v ls base top' := ⟨R.nil, fun h' => by
 obtain ⟨b, al, h1, h2, h3, h4, h5⟩ := R.cons h'
 exact ⟨b, al, h1, h2, by omega, fun j hj => by have := h4 j hj; omega, h5⟩⟩
theorem RowT.len (R : RowT H v ls base top) : ∃ c, v = .slice (match v with | .slice a _ _ => a | _ => none) ls.length c := by
 by_cases hne : ls = []
 ·subst hne; exact ⟨0, by rw [R.nil rfl]; rfl⟩
 ·obtain ⟨b, al, rfl, -⟩ := R.cons hne
  exact ⟨_, rfl⟩
theorem RowT.sameV6 (R : RowT H v ls base top) : sameV 6 v v = true := by
 by_cases h : ls = []
 ·rw [R.nil h]; unfold sameV; simp
 ·obtain ⟨b, al, rfl, -⟩ := R.cons h
  unfold sameV; simp
theorem Chu.low {H₂ H₉ : AHeap} {k cap : Nat} {a : Option Addr} {bs : List Int} (h : Chu H k a bs cap) (h2 : Chu H₂ k a bs cap) (f : FrX k H H₂) (hb : ∀ j, j < H.size → H₉.get j = H₂.get j) (hs : H₂.size ≤ H₉.size) : Chu H₉ k a bs cap where
 lt := Nat.lt_of_lt_of_le h2.lt hs
 blk := by rw [hb k h.lt]; exact h2.blk
 row hne := by
  obtain ⟨b, o, c, h1, h3, h4, h5⟩ := h.row hne
  obtain ⟨u, s, hk, -⟩ := h.blk
  have hbk : b ≠ k := fun e => by rw [e, hk] at h4; cases h4
  exact ⟨b, o, c, h1, by have := f.size; omega, by rw [hb b h3, f.same b h3 hbk]; exact h4, h5⟩
 byte := h.byte
 len := h.len
end
section
variable {a ab : Option Addr} {cap capb k : Nat} {bs : List Int} {l : List Str} {C w ld fr at₀ : Int}
theorem Can.arr {m : Int} {x : Int} {i : Nat} {s : Str} {b : Bool} (h : Can l w ld fr at₀ m x) (g : Good C l ld) (h0 : 0 ≤ at₀) (ha : at₀ ≤ 240) (hx : nearL s b = x) (hi : l[i]? = some s) (hm : mayL s b w ld = true) (hs : arriveL s b ld m ≠ -1) : Can l w ld fr at₀ (arriveL s b ld m) (farL s b) :=
 (canS_can (x := (farL s b, 0)) ((can_canS h).arr g h0 ha hx hi hm hs)).2
end
end Go.Am
namespace Go.Am
open Go.Proofs
variable {T : Tab} {P : Program} {N L : Nat} {H : AHeap} {Q : Bool → Value → AHeap → Prop}
section
variable {l : List Str} {C w ld fr a₀ : Int}
end
section
variable {l : List Str} {C w ld fr wh wn : Int} {i8 i9 k16 c16 : Nat} {a' b2 : Option Addr} {cap' cap2 : Nat} {bs2 : List Int} {H' : AHeap} {e : VT}
end
end Go.Am
namespace Go.Am
open Go.Proofs
variable {T : Tab} {P : Program} {N L : Nat} {H : AHeap} {Q : Bool → Value → AHeap → Prop}
theorem RowL.frx {H' : AHeap} {v : Value} {ls : List (Int × Bool)} {base k : Nat} (R : RowL H v ls base) (f : FrX k H H') (hk : k < base) : RowL H' v ls base := ⟨R.nil, fun h => by
 obtain ⟨b, al, h1, h2, h3, h4, h5⟩ := R.cons h
 exact ⟨b, al, h1, h2, Nat.lt_of_lt_of_le h3 f.size, h4, by rw [f.same _ h3 (by omega)]; exact h5⟩⟩
section
variable {C w ld fr wn wh : Int} {l : List Str} {e e' : VT} {H' H'' : AHeap}
end
section
variable {a b2 : Option Addr} {cap cap2 : Nat} {bs bs2 : List Int}
end
end Go.Am
namespace Go.Am
open Go.Proofs
variable {T : Tab} {P : Program} {N L : Nat} {H : AHeap} {Q : Bool → Value → AHeap → Prop}
def plc (t : List Int) (x : Int) : Option Nat := t.findIdx? fun y => decide (x = y)
theorem plc_some {t : List Int} {x : Int} {r : Nat} (h : plc t x = some r) : ∃ hr : r < t.length, t[r] = x ∧ ∀ j (hj : j < r), t[j] ≠ x := by
 obtain ⟨h1, h2, h3⟩ := List.findIdx?_eq_some_iff_getElem.1 h
 refine ⟨h1, (of_decide_eq_true h2).symm, fun j hj e => ?_⟩
 have := h3 j hj
 rw [e] at this
 simp at this
theorem plc_none {t : List Int} {x : Int} (h : plc t x = none) : x ∉ t := fun hm => by
 have := List.findIdx?_eq_none_iff.1 h x hm
 simp at this
def plcI (t : List Int) (x : Int) : Int := match plc t x with | some r => (r : Int) | none => -1
set_option maxHeartbeats 1000000 in
theorem c110g {a : Option Addr} {cap : Nat} {t : List Int} {x : Int} (hs : Il H a t) (hl : t.length ≤ 18) :
  acall tabA (aexec tabA Try.prog (N + 100)) 110 [.slice a t.length cap, .int .i64 x] H = some (true, .int .i64 (plcI t x), H, H.size) := by
 refine call_quiet (k := 19) (rs := [.tmp 4]) rfl fn_110 rfl rfl rfl ?_ rfl
 simp (disch:=first|(simp only [yk,seval];done)|omega|(simp only [yz]<;>omega)|fail) only [↓yp,yq0,yq1,yq2,yq3,yq4,yl,ys0,ys1,seval,zed,zee,zfr,zhw,ysu,yrg,ysv,ysw,ysx,ysz,ysa,lenV_slice zir]
 refine W_while (n := 19) 60 (fun k e H' => ∃ i : Nat, k = t.length - i ∧ i ≤ t.length ∧ (∀ r, plc t x = some r → i ≤ r) ∧ gt 19 e 8 = .int .i64 (i : Nat) ∧ gt 19 e 7 = .int .i64 t.length ∧ gt 19 e 0 = .slice a t.length cap ∧ gt 19 e 1 = .int .i64 x ∧ H' = H)
  ?_ 18 t.length ⟨0, by omega, by omega, fun r _ => by omega, by simp (disch:=first|(simp only [yk,seval];done)|omega|(simp only [yz]<;>omega)|fail) only [yg,seval] <;> rfl, by simp (disch:=first|(simp only [yk,seval];done)|omega|(simp only [yz]<;>omega)|fail) only [yg,seval], by simp (disch:=first|(simp only [yk,seval];done)|omega|(simp only [yz]<;>omega)|fail) only [yg,seval], by simp (disch:=first|(simp only [yk,seval];done)|omega|(simp only [yz]<;>omega)|fail) only [yg,seval], rfl⟩ (by omega) (by omega)
 rintro M k e H' ⟨i, rfl, hi, hle, g8, g7, g0, g1, rfl⟩
 simp (disch:=first|(simp only [yk,seval];done)|omega|(simp only [yz]<;>omega)|fail) only [↓yp,yq0,yq1,yq2,yq3,yq4,yl,ys0,ys1,seval,zed,zee,zfr,zhw,ysu,yrg,ysv,ysw,ysx,ysz,ysa,g8,g7]
 refine ⟨fun hA => ?_, fun hA => ?_⟩
 ·have hi' : i < t.length := by simpa using hA
  obtain ⟨b, o, c, rfl, hc, hp⟩ := hs.c (fun h => by rw [h] at hi'; simp at hi')
  have q := hp i t[i] (by simp [hi'])
  simp (disch:=first|(simp only [yk,seval];done)|omega|(simp only [yz]<;>omega)|fail) only [↓yp,yq0,yq1,yq2,yq3,yq4,yl,ys0,ys1,seval,zed,zee,zfr,zhw,ysu,yrg,ysv,ysw,ysx,ysz,ysa,g8,g7,g0,g1,A_indexSlice zir,hc,q,Nat.mul_one]
  refine ⟨fun hB => ?_, fun hB => ?_⟩
  ·have hB' : x = t[i] := of_decide_eq_true hB
   have hpl : plc t x = some i := List.findIdx?_eq_some_iff_getElem.2 ⟨hi', decide_eq_true hB', fun j hj => by
    intro hj2
    have : plc t x ≠ none := fun hn => plc_none hn (by rw [hB']; exact List.getElem_mem _)
    cases hr : plc t x with
    | none => exact this hr
    | some r =>
     obtain ⟨h1, h2, h3⟩ := plc_some hr
     have := hle r hr
     exact h3 j (by omega) (of_decide_eq_true hj2).symm⟩
   have : plcI t x = (i : Int) := by unfold plcI; rw [hpl]
   simp (disch:=first|(simp only [yk,seval];done)|omega|(simp only [yz]<;>omega)|fail) only [↓yp,yq0,yq1,yq2,yq3,yq4,yl,ys0,ys1,seval,zed,zee,zfr,zhw,ysu,yrg,ysv,ysw,ysx,ysz,ysa,g8,this]
  ·have hB' : x ≠ t[i] := of_decide_eq_false hB
   have hw2 : w64 ((i : Int) + 1) = ((i + 1 : Nat) : Int) := by rw [w64_of (by omega)]; omega
   simp (disch:=first|(simp only [yk,seval];done)|omega|(simp only [yz]<;>omega)|fail) only [↓yp,yq0,yq1,yq2,yq3,yq4,yl,ys0,ys1,seval,zed,zee,zfr,zhw,ysu,yrg,ysv,ysw,ysx,ysz,ysa,g8,hw2]
   refine ⟨t.length - (i + 1), by omega, i + 1, rfl, by omega, fun r hr => ?_, ?_, ?_, ?_, ?_, rfl⟩
   ·have h1 := hle r hr
    obtain ⟨h2, h3, -⟩ := plc_some hr
    apply Classical.byContradiction
    intro hlt
    have : i = r := by omega
    subst this
    exact hB' h3.symm
   ·simp (disch:=first|(simp only [yk,seval];done)|omega|(simp only [yz]<;>omega)|fail) only [yg,seval]
   ·simp (disch:=first|(simp only [yk,seval];done)|omega|(simp only [yz]<;>omega)|fail) only [yg,seval,g7]
   ·simp (disch:=first|(simp only [yk,seval];done)|omega|(simp only [yz]<;>omega)|fail) only [yg,seval,g0]
   ·simp (disch:=first|(simp only [yk,seval];done)|omega|(simp only [yz]<;>omega)|fail) only [yg,seval,g1]
 ·have hi' : i = t.length := by have := of_decide_eq_false hA; omega
  have hpl : plcI t x = -1 := by
   unfold plcI
   cases hr : plc t x with
   | none => rfl
   | some r =>
    have h1 := hle r hr
    obtain ⟨h2, -⟩ := plc_some hr
    omega
  simp (disch:=first|(simp only [yk,seval];done)|omega|(simp only [yz]<;>omega)|fail) only [↓yp,yq0,yq1,yq2,yq3,yq4,yl,ys0,ys1,seval,zed,zee,zfr,zhw,ysu,yrg,ysv,ysw,ysx,ysz,ysa,hpl]
set_option maxHeartbeats 1000000 in
theorem c110h {a : Option Addr} {cap : Nat} {t : List Int} {x : Int} (hs : Il H a t) (hl : t.length ≤ 6) :
  acall tabA (aexec tabA Try.prog (N + 70)) 110 [.slice a t.length cap, .int .i64 x] H = some (true, .int .i64 (plcI t x), H, H.size) := by
 refine call_quiet (k := 19) (rs := [.tmp 4]) rfl fn_110 rfl rfl rfl ?_ rfl
 simp (disch:=first|(simp only [yk,seval];done)|omega|(simp only [yz]<;>omega)|fail) only [↓yp,yq0,yq1,yq2,yq3,yq4,yl,ys0,ys1,seval,zed,zee,zfr,zhw,ysu,yrg,ysv,ysw,ysx,ysz,ysa,lenV_slice zir]
 refine W_while (n := 19) 30 (fun k e H' => ∃ i : Nat, k = t.length - i ∧ i ≤ t.length ∧ (∀ r, plc t x = some r → i ≤ r) ∧ gt 19 e 8 = .int .i64 (i : Nat) ∧ gt 19 e 7 = .int .i64 t.length ∧ gt 19 e 0 = .slice a t.length cap ∧ gt 19 e 1 = .int .i64 x ∧ H' = H)
  ?_ 18 t.length ⟨0, by omega, by omega, fun r _ => by omega, by simp (disch:=first|(simp only [yk,seval];done)|omega|(simp only [yz]<;>omega)|fail) only [yg,seval] <;> rfl, by simp (disch:=first|(simp only [yk,seval];done)|omega|(simp only [yz]<;>omega)|fail) only [yg,seval], by simp (disch:=first|(simp only [yk,seval];done)|omega|(simp only [yz]<;>omega)|fail) only [yg,seval], by simp (disch:=first|(simp only [yk,seval];done)|omega|(simp only [yz]<;>omega)|fail) only [yg,seval], rfl⟩ (by omega) (by omega)
 rintro M k e H' ⟨i, rfl, hi, hle, g8, g7, g0, g1, rfl⟩
 simp (disch:=first|(simp only [yk,seval];done)|omega|(simp only [yz]<;>omega)|fail) only [↓yp,yq0,yq1,yq2,yq3,yq4,yl,ys0,ys1,seval,zed,zee,zfr,zhw,ysu,yrg,ysv,ysw,ysx,ysz,ysa,g8,g7]
 refine ⟨fun hA => ?_, fun hA => ?_⟩
 ·have hi' : i < t.length := by simpa using hA
  obtain ⟨b, o, c, rfl, hc, hp⟩ := hs.c (fun h => by rw [h] at hi'; simp at hi')
  have q := hp i t[i] (by simp [hi'])
  simp (disch:=first|(simp only [yk,seval];done)|omega|(simp only [yz]<;>omega)|fail) only [↓yp,yq0,yq1,yq2,yq3,yq4,yl,ys0,ys1,seval,zed,zee,zfr,zhw,ysu,yrg,ysv,ysw,ysx,ysz,ysa,g8,g7,g0,g1,A_indexSlice zir,hc,q,Nat.mul_one]
  refine ⟨fun hB => ?_, fun hB => ?_⟩
  ·have hB' : x = t[i] := of_decide_eq_true hB
   have hpl : plc t x = some i := List.findIdx?_eq_some_iff_getElem.2 ⟨hi', decide_eq_true hB', fun j hj => by
    intro hj2
    have : plc t x ≠ none := fun hn => plc_none hn (by rw [hB']; exact List.getElem_mem _)
    cases hr : plc t x with
    | none => exact this hr
    | some r =>
     obtain ⟨h1, h2, h3⟩ := plc_some hr
     have := hle r hr
     exact h3 j (by omega) (of_decide_eq_true hj2).symm⟩
   have : plcI t x = (i : Int) := by unfold plcI; rw [hpl]
   simp (disch:=first|(simp only [yk,seval];done)|omega|(simp only [yz]<;>omega)|fail) only [↓yp,yq0,yq1,yq2,yq3,yq4,yl,ys0,ys1,seval,zed,zee,zfr,zhw,ysu,yrg,ysv,ysw,ysx,ysz,ysa,g8,this]
  ·have hB' : x ≠ t[i] := of_decide_eq_false hB
   have hw2 : w64 ((i : Int) + 1) = ((i + 1 : Nat) : Int) := by rw [w64_of (by omega)]; omega
   simp (disch:=first|(simp only [yk,seval];done)|omega|(simp only [yz]<;>omega)|fail) only [↓yp,yq0,yq1,yq2,yq3,yq4,yl,ys0,ys1,seval,zed,zee,zfr,zhw,ysu,yrg,ysv,ysw,ysx,ysz,ysa,g8,hw2]
   refine ⟨t.length - (i + 1), by omega, i + 1, rfl, by omega, fun r hr => ?_, ?_, ?_, ?_, ?_, rfl⟩
   ·have h1 := hle r hr
    obtain ⟨h2, h3, -⟩ := plc_some hr
    apply Classical.byContradiction
    intro hlt
    have : i = r := by omega
    subst this
    exact hB' h3.symm
   ·simp (disch:=first|(simp only [yk,seval];done)|omega|(simp only [yz]<;>omega)|fail) only [yg,seval]
   ·simp (disch:=first|(simp only [yk,seval];done)|omega|(simp only [yz]<;>omega)|fail) only [yg,seval,g7]
   ·simp (disch:=first|(simp only [yk,seval];done)|omega|(simp only [yz]<;>omega)|fail) only [yg,seval,g0]
   ·simp (disch:=first|(simp only [yk,seval];done)|omega|(simp only [yz]<;>omega)|fail) only [yg,seval,g1]
 ·have hi' : i = t.length := by have := of_decide_eq_false hA; omega
  have hpl : plcI t x = -1 := by
   unfold plcI
   cases hr : plc t x with
   | none => rfl
   | some r =>
    have h1 := hle r hr
    obtain ⟨h2, -⟩ := plc_some hr
    omega
  simp (disch:=first|(simp only [yk,seval];done)|omega|(simp only [yz]<;>omega)|fail) only [↓yp,yq0,yq1,yq2,yq3,yq4,yl,ys0,ys1,seval,zed,zee,zfr,zhw,ysu,yrg,ysv,ysw,ysx,ysz,ysa,hpl]
theorem plc_iff {t : List Int} {x : Int} : decide (plcI t x ≥ 0) = decide (x ∈ t) := by
 unfold plcI
 cases h : plc t x with
 | none => have := plc_none h; simp [this]
 | some r =>
  obtain ⟨h1, h2, -⟩ := plc_some h
  have : x ∈ t := by rw [← h2]; exact List.getElem_mem _
  simp [this]
theorem c57g {a : Option Addr} {cap : Nat} {t : List Int} {x : Int} (hs : Il H a t) (hl : t.length ≤ 18) :
  acall tabA (aexec tabA Try.prog (N + 130)) 57 [.slice a t.length cap, .int .i64 x] H = some (true, .bool (decide (x ∈ t)), H, H.size) := by
 have hc := fun (N : Nat) => c110g (N := N) (cap := cap) (x := x) hs hl
 have hd : decide (0 ≤ plcI t x) = decide (x ∈ t) := plc_iff
 have hd' := plc_iff (t := t) (x := x)
 refine call_quiet (k := 9) (rs := [.tmp 4]) rfl fn_57 rfl rfl rfl ?_ rfl
 simp (disch:=first|(simp only [yk,seval];done)|omega|(simp only [yz]<;>omega)|fail) only [↓yp,yq0,yq1,yq2,yq3,yq4,yl,ys0,ys1,seval,zed,zee,zfr,zhw,ysu,yrg,ysv,ysw,ysx,ysz,ysa,hc,hd,hd']
def orU (a b : Int) : Int := u64w ((BitVec.ofInt 64 a ||| BitVec.ofInt 64 b).toNat : Nat)
theorem u64_or {ty : TypeId} {x y : Operand} {a b : Int} : binV T P .or ty x y (.int .u64 a) (.int .u64 b) = some (.int .u64 (orU a b)) := nr rfl
theorem orU_nat {a b : Nat} (ha : a < 1000000) (hb : b < 1000000) : orU (a : Int) (b : Int) = ((a ||| b : Nat) : Int) := by
 have h1 : (BitVec.ofInt 64 (a : Int) ||| BitVec.ofInt 64 (b : Int)).toNat = a ||| b := by
  rw [BitVec.toNat_or, BitVec.ofInt_natCast, BitVec.ofInt_natCast, BitVec.toNat_ofNat, BitVec.toNat_ofNat, Nat.mod_eq_of_lt (by omega), Nat.mod_eq_of_lt (by omega)]
 have h2 : a ||| b < 2 ^ 20 := Nat.or_lt_two_pow (by omega) (by omega)
 unfold orU
 rw [h1]
 exact u64w_of (by omega)
def bitN (t : List Int) (x : Int) : Nat := match plc t x with | some r => 2 ^ r | none => 0
theorem shl1 {x y : Operand} : ∀ {i : Nat}, i ≤ 6 → binV tabA Try.prog .shl 142 x y (.int .u64 1) (.int .i64 ((i : Nat) : Int)) = some (.int .u64 ((2 ^ i : Nat) : Int))
 | 0, _ => rfl
 | 1, _ => rfl
 | 2, _ => rfl
 | 3, _ => rfl
 | 4, _ => rfl
 | 5, _ => rfl
 | 6, _ => rfl
 | i + 7, h => by omega
theorem c132 {a : Option Addr} {cap : Nat} {t : List Int} {x : Int} (hs : Il H a t) (hl : t.length ≤ 6) :
  acall tabA (aexec tabA Try.prog (N + 100)) 132 [.slice a t.length cap, .int .i64 x] H = some (true, .int .u64 (bitN t x : Nat), H, H.size) := by
 have hc := fun (N : Nat) => c110h (N := N) (cap := cap) (x := x) hs hl
 refine call_quiet (k := 13) (rs := [.tmp 4]) rfl fn_132 rfl rfl rfl ?_ rfl
 cases hp : plc t x with
 | none =>
  have h1 : plcI t x = -1 := by unfold plcI; rw [hp]
  have h2 : bitN t x = 0 := by unfold bitN; rw [hp]
  rw [h1] at hc
  rw [h2]
  simp (disch:=first|(simp only [yk,seval];done)|omega|(simp only [yz]<;>omega)|fail) only [↓yp,yq0,yq1,yq2,yq3,yq4,yl,ys0,ys1,seval,zed,zee,zfr,zhw,ysu,yrg,ysv,ysw,ysx,ysz,ysa,hc]
  try rfl
 | some r =>
  have h1 : plcI t x = (r : Int) := by unfold plcI; rw [hp]
  have h2 : bitN t x = 2 ^ r := by unfold bitN; rw [hp]
  obtain ⟨hr, -⟩ := plc_some hp
  rw [h1] at hc
  rw [h2]
  have hd : decide ((r : Int) < 0) = false := by simp
  have hsh := fun (x y : Operand) => shl1 (x := x) (y := y) (i := r) (by omega)
  simp (disch:=first|(simp only [yk,seval];done)|omega|(simp only [yz]<;>omega)|fail) only [↓yp,yq0,yq1,yq2,yq3,yq4,yl,ys0,ys1,seval,zed,zee,zfr,zhw,ysu,yrg,ysv,ysw,ysx,ysz,ysa,hc,hd,hsh]
end Go.Am
namespace Go.Am
open Go.Proofs
variable {T : Tab} {P : Program} {N L : Nat} {H : AHeap} {Q : Bool → Value → AHeap → Prop}
section
variable {l : List Str} {C w ld a₀ : Int} {nx : Stt → Nat → Str → Bool → Stt} {s₀ s : Stt} {S : List Stt} {st : Ex} {k : Int}
theorem tr_chain (Rl : Stt → Stt → Prop) (hr : ∀ x, Rl x x) (ht : ∀ x y z, Rl x y → Rl y z → Rl x z) (hs : ∀ x (i : Nat) r b, l[i]? = some r → Rl x (nx x i r b)) (I : ExI l w ld nx s₀ a₀ S k st) (g : Good C l ld) (h0 : 0 ≤ a₀ ∧ a₀ ≤ 240) :
  ∀ {s : Stt} {a : Arv}, flk st.F s = some a → ∃ ls, Trc st.F s₀ s ls ∧ Run l w ld nx s₀ a₀ ls s a.m ∧ ∃ vs : List Stt, vs.Nodup ∧ vs.length = ls.length + 1 ∧ (∀ v ∈ vs, (∃ a', flk st.F v = some a' ∧ a'.m ≤ a.m) ∧ Rl v s) ∧ ∀ u ∈ vs, ∀ v ∈ vs, Rl u v ∨ Rl v u := by
 suffices ∀ n : Nat, ∀ (s : Stt) (a : Arv), a.m - a₀ < n → flk st.F s = some a → ∃ ls, Trc st.F s₀ s ls ∧ Run l w ld nx s₀ a₀ ls s a.m ∧ ∃ vs : List Stt, vs.Nodup ∧ vs.length = ls.length + 1 ∧ (∀ v ∈ vs, (∃ a', flk st.F v = some a' ∧ a'.m ≤ a.m) ∧ Rl v s) ∧ ∀ u ∈ vs, ∀ v ∈ vs, Rl u v ∨ Rl v u from
  fun {s a} h => this ((a.m - a₀).toNat + 1) s a (by omega) h
 intro n
 induction n with
 | zero =>
  intro s a hn h
  have := ((I.can _ _ h).le h0.2 g).1
  omega
 | succ n ih =>
  intro s a hn h
  by_cases he : s = s₀
  ·subst he
   have hb := I.beg
   rw [h] at hb
   cases hb
   refine ⟨[], .nil, .nil, [s], by simp, rfl, fun v hv => ?_, fun u hu v hv => ?_⟩
   ·simp only [List.mem_singleton] at hv
    subst hv
    exact ⟨⟨_, h, Int.le_refl _⟩, hr _⟩
   ·simp only [List.mem_singleton] at hu hv
    subst hu hv
    exact .inl (hr _)
  ·obtain ⟨i, r, p, h1, h2, h3, h4, h5, h6, h7, h8, h9⟩ := I.bef s a h he
   obtain ⟨ls, t1, t2, vs, v1, v2, v3, v4⟩ := ih (a.c, a.d) p (by omega) h6
   have hp := ((I.can _ _ h6).le h0.2 g).1
   have hst : Rl (a.c, a.d) s := by rw [h5]; exact hs _ i r a.b h2
   refine ⟨ls ++ [(a.i, a.b)], .snoc he h t1, ?_, s :: vs, List.nodup_cons.2 ⟨fun hm => ?_, v1⟩, by simp only [List.length_cons,List.length_append,List.length_nil,v2], fun v hv => ?_, fun u hu v hv => ?_⟩
   ·have := t2.snoc h2 h3 h4 (by omega) (by omega)
    rw [h1, ← h7]
    rw [← h5] at this
    exact this
   ·obtain ⟨⟨a', q1, q2⟩, -⟩ := v3 s hm
    rw [h] at q1
    cases q1
    omega
   ·rcases List.mem_cons.1 hv with rfl | hv
    ·exact ⟨⟨a, h, Int.le_refl _⟩, hr _⟩
    ·obtain ⟨⟨a', q1, q2⟩, q3⟩ := v3 v hv
     exact ⟨⟨a', q1, by omega⟩, ht _ _ _ q3 hst⟩
   ·rcases List.mem_cons.1 hu with e1 | hu1
    ·rcases List.mem_cons.1 hv with e2 | hv1
     ·rw [e1, e2]; exact .inl (hr _)
     ·rw [e1]; exact .inr (ht _ _ _ (v3 v hv1).2 hst)
    ·rcases List.mem_cons.1 hv with e2 | hv1
     ·rw [e2]; exact .inl (ht _ _ _ (v3 u hu1).2 hst)
     ·exact v4 u hu1 v hv1
end
def pcn (n d : Nat) : Nat := (List.range n).countP fun i => d.testBit i
theorem pcn_le {n d : Nat} : pcn n d ≤ n := by
 have := List.countP_le_length (p := fun i => d.testBit i) (l := List.range n)
 rwa [List.length_range] at this
theorem countP_eq {α : Type} {p q : α → Bool} : ∀ {l : List α}, (∀ x ∈ l, p x = true → q x = true) → l.countP p = l.countP q → ∀ x ∈ l, p x = q x
 | [], _, _, x, hx => by simp at hx
 | y :: l, h, he, x, hx => by
  have hm := List.countP_mono_left (l := l) (p := p) (q := q) fun x hx => h x (List.mem_cons_of_mem _ hx)
  rw [List.countP_cons, List.countP_cons] at he
  have hy := h y (by simp)
  cases hp : p y <;> cases hq : q y
  ·rw [hp, hq] at he
   rcases List.mem_cons.1 hx with rfl | hx
   ·rw [hp, hq]
   ·exact countP_eq (fun x hx => h x (List.mem_cons_of_mem _ hx)) (by simpa using he) x hx
  ·rw [hp, hq] at he
   simp at he
   omega
  ·have := hy hp
   rw [hq] at this
   cases this
  ·rw [hp, hq] at he
   rcases List.mem_cons.1 hx with rfl | hx
   ·rw [hp, hq]
   ·exact countP_eq (fun x hx => h x (List.mem_cons_of_mem _ hx)) (by simpa using he) x hx
theorem pcn_inj {n d e : Nat} (hd : d < 2 ^ n) (he : e < 2 ^ n) (hs : d ||| e = e) (hp : pcn n d = pcn n e) : d = e := by
 have hb : ∀ i, d.testBit i = true → e.testBit i = true := fun i h => by
  rw [← hs, Nat.testBit_or, h]; rfl
 have key := countP_eq (l := List.range n) (p := fun i => d.testBit i) (q := fun i => e.testBit i) (fun i _ h => hb i h) hp
 apply Nat.eq_of_testBit_eq
 intro i
 by_cases hi : i < n
 ·exact key i (List.mem_range.2 hi)
 ·have h2 : 2 ^ n ≤ 2 ^ i := Nat.pow_le_pow_right (by omega) (by omega)
  rw [Nat.testBit_lt_two_pow (Nat.lt_of_lt_of_le hd h2), Nat.testBit_lt_two_pow (Nat.lt_of_lt_of_le he h2)]
def dnT (t : List Int) (d : Int) (i : Nat) : Int := ((d.toNat ||| bitN t i : Nat) : Int)
theorem bitN_lt {t : List Int} {x : Int} (hl : t.length ≤ 6) : bitN t x < 2 ^ t.length := by
 unfold bitN
 cases h : plc t x with
 | none => exact Nat.two_pow_pos _
 | some r =>
  obtain ⟨h1, -⟩ := plc_some h
  exact Nat.pow_lt_pow_right (by omega) h1
def corT (n : Nat) : List Stt := (List.range 8).flatMap fun c : Nat => (List.range (2 ^ n)).map fun d : Nat => (((c : Int), (d : Int)) : Stt)
theorem corT_iff {n : Nat} {s : Stt} : s ∈ corT n ↔ (0 ≤ s.1 ∧ s.1 ≤ 7) ∧ 0 ≤ s.2 ∧ s.2.toNat < 2 ^ n := by
 obtain ⟨c, d⟩ := s
 unfold corT
 simp only [List.mem_flatMap,List.mem_range,List.mem_map,Prod.mk.injEq]
 constructor
 ·rintro ⟨c', h1, d', h2, rfl, rfl⟩
  refine ⟨by omega, by omega, ?_⟩
  rw [Int.toNat_natCast]; exact h2
 ·rintro ⟨h1, h2, h3⟩
  exact ⟨c.toNat, by omega, d.toNat, h3, by omega, by omega⟩
theorem corT_len {n : Nat} (hn : n ≤ 6) : (corT n).length ≤ 1000 := by
 have : n = 0 ∨ n = 1 ∨ n = 2 ∨ n = 3 ∨ n = 4 ∨ n = 5 ∨ n = 6 := by omega
 rcases this with rfl | rfl | rfl | rfl | rfl | rfl | rfl <;> decide +kernel
def cor56 : List (Int × Nat) := (List.range 8).flatMap fun c : Nat => (List.range 7).map fun k : Nat => (((c : Int), k) : Int × Nat)
section
variable {l : List Str} {C w ld a₀ : Int} {s₀ s : Stt} {t : List Int} {st : Ex} {k : Int}
theorem tr_tour (hl : t.length ≤ 6) (I : ExI l w ld (nxt (dnT t)) s₀ a₀ (corT t.length) k st) (g : Good C l ld) (h0 : 0 ≤ a₀ ∧ a₀ ≤ 240) {a : Arv} (h : flk st.F s = some a) : ∃ ls, Trc st.F s₀ s ls ∧ Run l w ld (nxt (dnT t)) s₀ a₀ ls s a.m ∧ ls.length ≤ 55 := by
 obtain ⟨ls, t1, t2, vs, v1, v2, v3, v4⟩ := tr_chain (fun x y => x.2.toNat ||| y.2.toNat = y.2.toNat) (fun x => Nat.or_self _) (fun x y z h1 h2 => by rw [← h2, ← Nat.or_assoc, h1]) (fun x i r b _ => by
  unfold nxt dnT
  simp only [Int.toNat_natCast]
  rw [← Nat.or_assoc, Nat.or_self]) I g h0 h
 refine ⟨ls, t1, t2, ?_⟩
 have hS : ∀ v ∈ vs, v ∈ corT t.length := fun v hv => by
  obtain ⟨⟨a', q, -⟩, -⟩ := v3 v hv
  exact I.sub _ _ q
 have hnd : (vs.map fun v => (v.1, pcn t.length v.2.toNat)).Nodup := by
  unfold List.Nodup
  rw [List.pairwise_map]
  refine v1.imp_of_mem fun {u v} hu hv hne he => hne ?_
  have h1 := corT_iff.1 (hS u hu)
  have h2 := corT_iff.1 (hS v hv)
  simp only [Prod.mk.injEq] at he
  have hd : u.2.toNat = v.2.toNat := by
   rcases v4 u hu v hv with h | h
   ·exact pcn_inj h1.2.2 h2.2.2 h he.2
   ·exact (pcn_inj h2.2.2 h1.2.2 h he.2.symm).symm
  obtain ⟨c, d⟩ := u
  obtain ⟨c', d'⟩ := v
  simp only [Prod.mk.injEq] at *
  exact ⟨he.1, by omega⟩
 have := nodup_len (S := cor56) hnd fun x hx => by
  obtain ⟨v, hv, rfl⟩ := List.mem_map.1 hx
  have h1 := corT_iff.1 (hS v hv)
  have h2 := pcn_le (n := t.length) (d := v.2.toNat)
  unfold cor56
  simp only [List.mem_flatMap,List.mem_range,List.mem_map,Prod.mk.injEq]
  exact ⟨v.1.toNat, by omega, _, by omega, by omega, rfl⟩
 rw [List.length_map, v2, show cor56.length = 56 by decide +kernel] at this
 omega
end
end Go.Am
